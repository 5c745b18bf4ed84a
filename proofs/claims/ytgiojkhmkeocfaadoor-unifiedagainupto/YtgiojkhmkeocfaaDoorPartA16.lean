/-
  Texts that belong together, joined: UnM2, UnM3, UnLen, UpA, UpB, UpC, UpW, UkA.
-/
import Derived.Test.YtgiojkhmkeocfaaDoorPartA15
import Derived.Test.YtgiojkhmkeocfaaDoorPartA4
import Derived.Test.YtgiojkhmkeocfaaDoorPartA13

/- The unified form: hunks and patches are read as they were written; plain mathematics. -/
namespace Go.Proofs.YtgiojkhmkeocfaaDoor
open Ln

theorem cutS_app {d : UInt8} {x o : List UInt8} (ho : ∀ c ∈ o, c ≠ d) (r : List UInt8) : cutS (d :: x) (o ++ ((d :: x) ++ r)) = some (o, r) := by
  induction o with
  | nil =>
    show cutS (d :: x) (d :: (x ++ r)) = some ([], r)
    unfold cutS
    rw [if_pos (by rw [List.isPrefixOf_iff_prefix]; exact List.prefix_append (d :: x) r)]
    simp
  | cons c o ih =>
    have hi := ih fun y hy => ho y (by simp [hy])
    show cutS (d :: x) (c :: (o ++ ((d :: x) ++ r))) = some (c :: o, r)
    unfold cutS
    rw [if_neg, hi]
    have hc := ho c (by simp)
    simp only [List.isPrefixOf, Bool.and_eq_true, beq_iff_eq]
    exact fun q => hc q.1.symm
theorem uc_bytes {p n : Int} (hp : 0 ≤ p) (hn : 0 ≤ n) : ∀ c ∈ ucT p n, numC c = true := by
  unfold ucT
  split
  · intro c hc
    simp [numC, itoa_dig hp c hc]
  · intro c hc
    rcases List.mem_append.1 hc with hc | hc
    · simp [numC, itoa_dig hp c hc]
    · rcases List.mem_cons.1 hc with rfl | hc
      · decide
      · simp [numC, itoa_dig hn c hc]
theorem num_blank {c : UInt8} (h : numC c = true) : c ≠ 32 := by
  intro e
  subst e
  exact absurd h (by decide)
theorem cnt_back {p n : Int} (hp : 0 ≤ p) (hb : p ≤ 2147483647) (hn : 0 ≤ n) (hm : n ≤ 2147483647) : cntP (ucT p n) = some (p, n) := by
  obtain ⟨e1, e2⟩ := parse_itoa_ok hp hb
  obtain ⟨e3, e4⟩ := parse_itoa_ok hn hm
  unfold ucT cntP
  by_cases h : n = 1
  · rw [if_pos h, spB_none fun c hc => (dig_facts (itoa_dig hp c hc)).2.1]
    simp only
    rw [if_pos e2, e1, h]
  · rw [if_neg h, spB_app (fun c hc => (dig_facts (itoa_dig hp c hc)).2.1) rfl]
    simp only
    rw [if_pos ⟨e2, e4⟩, e1, e3]
theorem rng_hi {h : Hk} (hr : rngB h = true) : h.AN ≤ 2147483647 ∧ h.BN ≤ 2147483647 := by
  simp [rngB, nat31] at hr
  omega
theorem uhd_back {h : Hk} (hr : rngB h = true) : uhdP (uhT h) = some (h.A, h.AN, h.B, h.BN) := by
  obtain ⟨r1, r2, r3, r4, r5, r6, _⟩ := rng_out hr
  obtain ⟨r7, r8⟩ := rng_hi hr
  unfold uhdP
  have e : uhT h = [64, 64, 32, 45] ++ (ucT h.A h.AN ++ ([32, 43] ++ (ucT h.B h.BN ++ [32, 64, 64]))) := rfl
  rw [if_pos (by rw [e, List.isPrefixOf_iff_prefix]; exact List.prefix_append _ _)]
  have e4 : (uhT h).drop 4 = ucT h.A h.AN ++ ([32, 43] ++ (ucT h.B h.BN ++ [32, 64, 64])) := rfl
  rw [e4, cutS_app (fun c hc => num_blank (uc_bytes r1 r3 c hc))]
  simp only
  have e5 : ucT h.B h.BN ++ [32, 64, 64] = ucT h.B h.BN ++ ([32, 64, 64] ++ []) := by simp
  rw [e5, cutS_app (fun c hc => num_blank (uc_bytes r4 r6 c hc))]
  simp only
  rw [if_pos (show tlB [] = true from rfl), cnt_back r1 r2 r3 r7, cnt_back r4 r5 r6 r8]
/-- what is known of a sign -/
theorem sgn_cases {s : Int} (h : okS s = true) : s = 32 ∨ s = 45 ∨ s = 43 := by
  simp [okS] at h
  omega
theorem um_first (l : List Mk) (hl : ∀ m ∈ l, okS m.sg = true) {rest : List (List UInt8)} (hr : pkM rest = false) : pkM (l.flatMap umL ++ rest) = false := by
  cases l with
  | nil => exact hr
  | cons m l =>
    have h : UInt8.ofNat m.sg.toNat ≠ 92 := by
      rcases sgn_cases (hl m (by simp)) with e | e | e <;> rw [e] <;> decide
    simp only [List.flatMap_cons, umL, lnL]
    split
    · exact pkM_first rfl h
    · exact pkM_first rfl h
theorem pk_len43 {m : Mk} (h : okS m.sg = true) (l : List Mk) : (pkL 43 (m :: l)).length = sgO m + (pkL 43 l).length := by
  unfold sgO
  simp only [pkL]
  by_cases e : m.sg = 43
  · rw [if_neg (fun q => q.1 e), if_pos e]
    omega
  · rw [if_pos ⟨e, h⟩, if_neg e, List.length_cons]
    omega
theorem pk_len45 {m : Mk} (h : okS m.sg = true) (l : List Mk) : (pkL 45 (m :: l)).length = sgN m + (pkL 45 l).length := by
  unfold sgN
  simp only [pkL]
  by_cases e : m.sg = 45
  · rw [if_neg (fun q => q.1 e), if_pos e]
    omega
  · rw [if_pos ⟨e, h⟩, if_neg e, List.length_cons]
    omega
theorem abl_43 {m : Mk} {l : List Mk} (h : okS m.sg = true) (ha : abl (pkL 43 (m :: l)) = true) : abl (pkL 43 l) = true ∧ (fdB m.tx = false → m.sg = 43 ∨ (pkL 43 l).length = 0) := by
  simp only [pkL] at ha
  by_cases e : m.sg = 43
  · rw [if_neg (fun q => q.1 e)] at ha
    exact ⟨ha, fun _ => .inl e⟩
  · rw [if_pos ⟨e, h⟩] at ha
    simp only [abl, Bool.and_eq_true, Bool.or_eq_true] at ha
    refine ⟨ha.2, fun hf => .inr ?_⟩
    rcases ha.1 with q | q
    · simpa using q
    · rw [hf] at q
      cases q
theorem abl_45 {m : Mk} {l : List Mk} (h : okS m.sg = true) (ha : abl (pkL 45 (m :: l)) = true) : abl (pkL 45 l) = true ∧ (fdB m.tx = false → m.sg = 45 ∨ (pkL 45 l).length = 0) := by
  simp only [pkL] at ha
  by_cases e : m.sg = 45
  · rw [if_neg (fun q => q.1 e)] at ha
    exact ⟨ha, fun _ => .inl e⟩
  · rw [if_pos ⟨e, h⟩] at ha
    simp only [abl, Bool.and_eq_true, Bool.or_eq_true] at ha
    refine ⟨ha.2, fun hf => .inr ?_⟩
    rcases ha.1 with q | q
    · simpa using q
    · rw [hf] at q
      cases q
theorem sgn_take {m : Mk} (h : okS m.sg = true) : okC (UInt8.ofNat m.sg.toNat) = true ∧ tkO (UInt8.ofNat m.sg.toNat) = sgO m ∧ tkN (UInt8.ofNat m.sg.toNat) = sgN m ∧ (((UInt8.ofNat m.sg.toNat).toNat : Nat) : Int) = m.sg ∧ ((UInt8.ofNat m.sg.toNat == 43) = decide (m.sg = 43)) ∧ ((UInt8.ofNat m.sg.toNat == 45) = decide (m.sg = 45)) ∧ UInt8.ofNat m.sg.toNat ≠ 10 := by
  unfold sgO sgN
  rcases sgn_cases h with e | e | e <;> rw [e] <;> decide
/-- a line is read as it was written -/
theorem uln_back {m : Mk} (hl : linB m.tx = true) (hs : okS m.sg = true) {a b : Nat} (h43 : fdB m.tx = false → m.sg = 43 ∨ a = 0) (h45 : fdB m.tx = false → m.sg = 45 ∨ b = 0) (p : Nat) {R : List (List UInt8)} (hR : pkM R = false) : ulnP (sgO m + a) (sgN m + b) p (umL m ++ R) = .ok (m, p + (umL m).length, R) := by
  obtain ⟨t1, t2, t3, t4, t5, t6, _⟩ := sgn_take hs
  obtain ⟨l1, l2⟩ := lin_no hl
  unfold umL lnL ulnP
  generalize UInt8.ofNat m.sg.toNat = c at t1 t2 t3 t4 t5 t6 ⊢
  by_cases hf : fdB m.tx = true
  · rw [if_pos hf]
    have e1 := fd_form hf
    have e2 : nxt p ([[c] ++ m.tx] ++ R) = .ok (c :: m.tx.dropLast, R) := by
      have := nxt_feed (s := c :: m.tx.dropLast) p R
      rw [List.cons_append, ← e1] at this
      exact this
    rw [e2]
    simp only
    rw [if_pos ⟨t1, by omega, by omega⟩, if_neg (fun q => by rw [hR] at q; exact absurd q.2.2 (by decide)), ← e1]
    have e3 : (⟨(c.toNat : Int), m.tx⟩ : Mk) = m := by rw [t4]
    rw [e3]
    rfl
  · rw [if_neg hf]
    have hf' : fdB m.tx = false := by simpa using hf
    have e2 : nxt p ([[c] ++ m.tx ++ [10], markT] ++ R) = .ok (c :: m.tx, markT :: R) := nxt_feed (s := c :: m.tx) p (markT :: R)
    rw [e2]
    simp only
    have e4 : uendB c (sgO m + a - tkO c) (sgN m + b - tkN c) = true := by
      rw [t2, t3, Nat.add_sub_cancel_left, Nat.add_sub_cancel_left]
      unfold uendB
      rw [t5, t6]
      simp only [Bool.and_eq_true, Bool.or_eq_true, decide_eq_true_eq, beq_iff_eq]
      exact ⟨h43 hf', h45 hf'⟩
    rw [if_pos ⟨t1, by omega, by omega⟩, if_pos ⟨e4, l1, rfl⟩]
    have e3 : (⟨(c.toNat : Int), m.tx⟩ : Mk) = m := by rw [t4]
    rw [e3]
    rfl
theorem urd_back (l : List Mk) : ∀ (n p : Nat) (rest : List (List UInt8)), (∀ m ∈ l, linB m.tx = true ∧ okS m.sg = true) → abl (pkL 43 l) = true → abl (pkL 45 l) = true → (pkL 43 l).length + (pkL 45 l).length ≤ n → pkM rest = false → urdP n (pkL 43 l).length (pkL 45 l).length p (l.flatMap umL ++ rest) = .ok (l, p + (l.flatMap umL).length, rest) := by
  induction l with
  | nil =>
    intro n p rest _ _ _ _ _
    cases n with
    | zero => rfl
    | succ n => rfl
  | cons m l ih =>
    intro n p rest hl h43 h45 hn hr
    obtain ⟨m1, m2⟩ := hl m (by simp)
    have hl2 : ∀ x ∈ l, linB x.tx = true ∧ okS x.sg = true := fun x hx => hl x (by simp [hx])
    obtain ⟨a1, a2⟩ := abl_43 m2 h43
    obtain ⟨b1, b2⟩ := abl_45 m2 h45
    have k43 := pk_len43 m2 l
    have k45 := pk_len45 m2 l
    have hs : 1 ≤ sgO m + sgN m := by
      unfold sgO sgN
      by_cases e : m.sg = 43
      · rw [if_neg (by omega : ¬ m.sg = 45)]
        omega
      · rw [if_neg e]
        omega
    cases n with
    | zero => omega
    | succ n =>
      rw [k43, k45] at hn ⊢
      simp only [urdP, List.flatMap_cons, List.append_assoc]
      rw [if_neg (by omega), uln_back m1 m2 a2 b2 p (um_first l (fun x hx => (hl2 x hx).2) hr)]
      simp only
      rw [Nat.add_sub_cancel_left, Nat.add_sub_cancel_left, ih n _ rest hl2 a1 b1 (by omega) hr]
      simp only [List.length_append]
      congr 3
      omega
theorem chk_sm {h : Hk} (hc : chkH h = 0) : smB h.ls = false := (chk_out hc).2.2.2.2
/-- a hunk is read as it was written -/
theorem uhk_back {h : Hk} (hc : chkH h = 0) {k : Nat} (hk : k < 4096) (p : Nat) {rest : List (List UInt8)} (hr : pkM rest = false) : uhkP k p (uhL h ++ rest) = .ok (h, p + (uhL h).length, rest) := by
  obtain ⟨c1, c2, c3, c4, c5⟩ := chk_out hc
  obtain ⟨r1, r2, r3, r4, r5, r6, r7, r8⟩ := rng_out c1
  obtain ⟨f1, f2, f3⟩ := (fld_iff h.ls).1 c2
  unfold uhkP uhL
  rw [List.cons_append, nxt_feed]
  simp only
  rw [uhd_back c1]
  simp only
  rw [if_neg (by omega), if_neg (by omega)]
  have e1 : h.AN.toNat = (pkL 43 h.ls).length := by
    have : h.AN = ((pkL 43 h.ls).length : Int) := c3
    omega
  have e2 : h.BN.toNat = (pkL 45 h.ls).length := by
    have : h.BN = ((pkL 45 h.ls).length : Int) := c4
    omega
  rw [e1, e2, urd_back h.ls _ (p + 1) rest f1 f2 f3 (Nat.le_refl _) hr]
  simp only
  rw [if_neg (by rw [chk_sm hc]; decide)]
  simp only [List.length_cons]
  congr 3
  omega
/-- a right patch that has hunks -/
structure Gu (p : Pth) : Prop where
  ne : p.hs ≠ []
  old : p.old.length ≤ 64
  new : p.new.length ≤ 64
  few : p.hs.length ≤ 4096
  gd : ∀ h ∈ p.hs, chkH h = 0
/-- the bytes by which a line shows that it begins a hunk -/
def Shw (x : List UInt8) : Prop := x = atR ∨ x = atC
theorem uh_pk (h : Hk) (r : List (List UInt8)) : pkM (uhL h ++ r) = false := pkM_first (c := 64) rfl (by decide)
theorem uh_show {x : List UInt8} (hx : Shw x) (h : Hk) (r : List (List UInt8)) : pkU x (uhL h ++ r) = true := by
  rcases hx with rfl | rfl <;> rfl
theorem uhs_back {x : List UInt8} (hx : Shw x) (hs : List Hk) : ∀ (f k p : Nat) (rest : List (List UInt8)), hs ≠ [] → (∀ h ∈ hs, chkH h = 0) → k + hs.length ≤ 4096 → hs.length ≤ f → pkM rest = false → pkU x rest = false → uhsP x f k p (hs.flatMap uhL ++ rest) = .ok (hs, p + (hs.flatMap uhL).length, rest) := by
  induction hs with
  | nil => intro f k p rest h; exact absurd rfl h
  | cons h hs ih =>
    intro f k p rest _ hg hk hf hb hr
    cases f with
    | zero => exact absurd hf (by simp)
    | succ f =>
      simp only [List.length_cons] at hk hf
      have hgh := hg h (by simp)
      simp only [List.flatMap_cons, List.append_assoc, uhsP]
      cases hs with
      | nil =>
        simp only [List.flatMap_nil, List.nil_append, List.append_nil]
        rw [uhk_back hgh (by omega) p hb]
        simp only
        rw [if_neg (by rw [hr]; decide)]
      | cons h2 hs =>
        have hi := ih f (k + 1) (p + (uhL h).length) rest (by simp) (fun y hy => hg y (by simp [hy])) (by omega) (by omega) hb hr
        have hb2 : pkM ((h2 :: hs).flatMap uhL ++ rest) = false := by
          rw [List.flatMap_cons, List.append_assoc]
          exact uh_pk h2 _
        rw [uhk_back hgh (by omega) p hb2]
        simp only
        have hp : pkU x ((h2 :: hs).flatMap uhL ++ rest) = true := by
          rw [List.flatMap_cons, List.append_assoc]
          exact uh_show hx h2 _
        rw [if_pos hp, hi]
        simp only [List.length_append]
        congr 3
        omega
theorem up_lines {p : Pth} (h : p.hs ≠ []) : upL p = ([45, 45, 45, 32] ++ nameT p.old ++ [10]) :: ([43, 43, 43, 32] ++ nameT p.new ++ [10]) :: p.hs.flatMap uhL := by
  unfold upL
  rw [if_neg h]
theorem ups_beh {x : List UInt8} (hx : Shw x) {L : List Pth} (h : ∀ p ∈ L, Gu p) : pkM (L.flatMap upL) = false ∧ pkU x (L.flatMap upL) = false := by
  cases L with
  | nil => exact ⟨rfl, rfl⟩
  | cons p L =>
    rw [List.flatMap_cons, up_lines (h p (by simp)).ne]
    refine ⟨rfl, ?_⟩
    rcases hx with rfl | rfl <;> rfl
theorem uhk_few (hs : List Hk) : hs.length ≤ (hs.flatMap uhL).length := by
  induction hs with
  | nil => exact Nat.le_refl _
  | cons h hs ih =>
    simp only [List.flatMap_cons, List.length_append, List.length_cons]
    have : 1 ≤ (uhL h).length := by simp [uhL]
    omega
theorem ups_back {x : List UInt8} (hx : Shw x) (L : List Pth) : ∀ (f k p : Nat), (∀ q ∈ L, Gu q) → k + L.length ≤ 64 → L.length ≤ f → upsP x f k p (L.flatMap upL) = .ok L := by
  induction L with
  | nil =>
    intro f k p _ _ _
    cases f with
    | zero => rfl
    | succ f => rfl
  | cons q L ih =>
    intro f k p hg hk hf
    cases f with
    | zero => exact absurd hf (by simp)
    | succ f =>
      have g := hg q (by simp)
      have hg2 : ∀ y ∈ L, Gu y := fun y hy => hg y (by simp [hy])
      simp only [List.length_cons] at hk hf
      simp only [List.flatMap_cons, upsP]
      rw [up_lines g.ne]
      rw [if_neg (by simp)]
      simp only [List.cons_append]
      have n1 := name_back (ah := [45, 45, 45, 32]) g.old rfl p (([43, 43, 43, 32] ++ nameT q.new ++ [10]) :: (q.hs.flatMap uhL ++ L.flatMap upL))
      have n2 := name_back (ah := [43, 43, 43, 32]) g.new rfl (p + 1) (q.hs.flatMap uhL ++ L.flatMap upL)
      simp only [List.cons_append, List.nil_append] at n1 n2 ⊢
      rw [n1]
      simp only
      rw [if_neg (by omega), n2]
      simp only
      obtain ⟨b1, b2⟩ := ups_beh hx hg2
      rw [uhs_back hx q.hs _ 0 (p + 2) _ g.ne g.gd (by have := g.few; omega) (by have := uhk_few q.hs; simp only [List.length_append]; omega) b1 b2]
      simp only
      rw [ih f (k + 1) _ hg2 (by omega) (by omega)]
theorem fed_uh {h : Hk} (hc : chkH h = 0) : Fed (uhL h) := by
  obtain ⟨c1, c2, c3, c4, c5⟩ := chk_out hc
  obtain ⟨r1, r2, r3, r4, r5, r6, r7, r8⟩ := rng_out c1
  have f1 := ((fld_iff h.ls).1 c2).1
  unfold uhL
  refine fed_cons ?_ ?_
  · intro c hc
    unfold uhT at hc
    simp only [List.mem_append, List.mem_cons, List.not_mem_nil, or_false] at hc
    rcases hc with (rfl | rfl | rfl | rfl) | hc | (rfl | rfl) | hc | rfl | rfl | rfl
    all_goals first
      | decide
      | exact (num_facts (uc_bytes r1 r3 c hc)).2.1
      | exact (num_facts (uc_bytes r4 r6 c hc)).2.1
  · intro s hs
    obtain ⟨m, hm, hs⟩ := List.mem_flatMap.1 hs
    obtain ⟨g1, g2⟩ := f1 m hm
    refine fed_line ?_ g1 s hs
    intro c hc
    rw [List.mem_singleton.1 hc]
    exact (sgn_take g2).2.2.2.2.2.2
theorem fed_ups {L : List Pth} (h : ∀ p ∈ L, Gu p) : Fed (L.flatMap upL) := by
  intro s hs
  obtain ⟨p, hp, hs⟩ := List.mem_flatMap.1 hs
  have g := h p hp
  rw [up_lines g.ne] at hs
  refine fed_cons ?_ (fed_cons ?_ ?_) s hs
  · intro c hc
    rcases List.mem_append.1 hc with hc | hc
    · exact (by decide : ∀ c ∈ ([45, 45, 45, 32] : List UInt8), c ≠ 10) c hc
    · exact name_plain _ c hc
  · intro c hc
    rcases List.mem_append.1 hc with hc | hc
    · exact (by decide : ∀ c ∈ ([43, 43, 43, 32] : List UInt8), c ≠ 10) c hc
    · exact name_plain _ c hc
  · intro y hy
    obtain ⟨k, hk, hy⟩ := List.mem_flatMap.1 hy
    exact fed_uh (g.gd k hk) y hy
/-- patches are read as they were written -/
theorem un_back {x : List UInt8} (hx : Shw x) {L : List Pth} (h : ∀ p ∈ L, Gu p) (hn : L.length ≤ 64) (hl : ((L.flatMap upL).flatten).length ≤ 1048576) : unT x (L.flatMap upL).flatten = .ok L := by
  unfold unT
  rw [if_neg (by omega), right_split _ (fed_check (fed_ups h))]
  refine ups_back hx L _ 0 0 h (by omega) ?_
  clear hn hl
  induction L with
  | nil => exact Nat.le_refl _
  | cons p L ih =>
    have := ih fun y hy => h y (by simp [hy])
    simp only [List.flatMap_cons, List.length_append, List.length_cons]
    rw [up_lines (h p (by simp)).ne]
    simp only [List.length_cons]
    omega
end Go.Proofs.YtgiojkhmkeocfaaDoor

/- The unified form: what is read of a text are right patches, and their texts are read again as the same; it does not matter by how many bytes a line shows that it begins a hunk; plain mathematics. -/
namespace Go.Proofs.YtgiojkhmkeocfaaDoor
open Ln

theorem okc_cases {c : UInt8} (h : okC c = true) : c = 32 ∨ c = 45 ∨ c = 43 := by
  simp only [okC, Bool.or_eq_true, beq_iff_eq] at h
  rcases h with (h | h) | h
  · exact .inl h
  · exact .inr (.inl h)
  · exact .inr (.inr h)
theorem tk_sg {c : UInt8} (h : okC c = true) (t : List UInt8) : okS (⟨c.toNat, t⟩ : Mk).sg = true ∧ sgO ⟨c.toNat, t⟩ = tkO c ∧ sgN ⟨c.toNat, t⟩ = tkN c ∧ ((c == 43) = decide (((c.toNat : Nat) : Int) = 43)) ∧ ((c == 45) = decide (((c.toNat : Nat) : Int) = 45)) := by
  unfold sgO sgN
  rcases okc_cases h with rfl | rfl | rfl <;> exact ⟨rfl, rfl, rfl, rfl, rfl⟩
theorem uln_ok {a b p p1 : Nat} {ls r : List (List UInt8)} {m : Mk} (hP : Plain ls) (h : ulnP a b p ls = .ok (m, p1, r)) : linB m.tx = true ∧ okS m.sg = true ∧ sgO m ≤ a ∧ sgN m ≤ b ∧ (fdB m.tx = false → (m.sg = 43 ∨ a - sgO m = 0) ∧ (m.sg = 45 ∨ b - sgN m = 0)) ∧ Plain r ∧ ls.length + p = r.length + p1 ∧ r.length < ls.length := by
  unfold ulnP at h
  split at h
  · cases h
  · cases h
  · rename_i c t r0 hn
    have hls := nxt_ok hn
    obtain ⟨a1, a2⟩ := nxt_len hP hn
    have hct : ∀ d ∈ t, d ≠ 10 := by
      have h0 := hP ((c :: t) ++ [10]) (by rw [hls]; simp)
      rw [List.dropLast_concat] at h0
      exact fun d hd => h0 d (by simp [hd])
    split at h
    · rename_i hc
      obtain ⟨hc1, hc2, hc3⟩ := hc
      split at h
      · rename_i he
        cases h
        obtain ⟨s1, s2, s3, s4, s5⟩ := tk_sg hc1 t
        obtain ⟨he1, he2, he3⟩ := he
        have hlen : r0.tail.length + 1 = r0.length := by
          cases r0 with
          | nil => exact absurd he3 (by decide)
          | cons => simp
        refine ⟨lin_bare hct he2, s1, by rw [s2]; exact hc2, by rw [s3]; exact hc3, fun _ => ?_, fun y hy => a2 y (List.mem_of_mem_tail hy), by omega, by omega⟩
        unfold uendB at he1
        rw [s4, s5] at he1
        simp only [Bool.and_eq_true, Bool.or_eq_true, decide_eq_true_eq, beq_iff_eq] at he1
        rw [s2, s3]
        exact he1
      · cases h
        obtain ⟨s1, s2, s3, s4, s5⟩ := tk_sg hc1 (t ++ [10])
        refine ⟨lin_feed hct, s1, by rw [s2]; exact hc2, by rw [s3]; exact hc3, fun hf => ?_, a2, by omega, by omega⟩
        rw [fd_snoc] at hf
        cases hf
    · cases h
theorem urd_ok (n : Nat) : ∀ {a b p p1 : Nat} {ls r : List (List UInt8)} {l : List Mk}, Plain ls → a + b ≤ n → urdP n a b p ls = .ok (l, p1, r) → (∀ m ∈ l, linB m.tx = true ∧ okS m.sg = true) ∧ (pkL 43 l).length = a ∧ (pkL 45 l).length = b ∧ abl (pkL 43 l) = true ∧ abl (pkL 45 l) = true ∧ Plain r ∧ ls.length + p = r.length + p1 ∧ r.length ≤ ls.length := by
  induction n with
  | zero =>
    intro a b p p1 ls r l hP hn h
    simp only [urdP] at h
    cases h
    refine ⟨fun m hm => (by cases hm), ?_, ?_, rfl, rfl, hP, rfl, Nat.le_refl _⟩
    · simp only [pkL, List.length_nil]; omega
    · simp only [pkL, List.length_nil]; omega
  | succ n ih =>
    intro a b p p1 ls r l hP hn h
    simp only [urdP] at h
    split at h
    · cases h
      refine ⟨fun m hm => (by cases hm), ?_, ?_, rfl, rfl, hP, rfl, Nat.le_refl _⟩
      · simp only [pkL, List.length_nil]; omega
      · simp only [pkL, List.length_nil]; omega
    · split at h
      · cases h
      · rename_i m q1 r1 h1
        obtain ⟨a1, a2, a3, a4, a5, a6, a7, a8⟩ := uln_ok hP h1
        split at h
        · cases h
        · rename_i l2 q2 r2 h2
          have hs : 1 ≤ sgO m + sgN m := by
            unfold sgO sgN
            by_cases e : m.sg = 43
            · rw [if_neg (by omega : ¬ m.sg = 45)]
              omega
            · rw [if_neg e]
              omega
          obtain ⟨b1, b2, b3, b4, b5, b6, b7, b8⟩ := ih a6 (by omega) h2
          cases h
          have k43 := pk_len43 a2 l2
          have k45 := pk_len45 a2 l2
          refine ⟨?_, by omega, by omega, ?_, ?_, b6, by omega, by omega⟩
          · intro x hx
            rcases List.mem_cons.1 hx with rfl | hx
            · exact ⟨a1, a2⟩
            · exact b1 x hx
          · simp only [pkL]
            split
            · rename_i hq
              simp only [abl, Bool.and_eq_true, Bool.or_eq_true]
              refine ⟨?_, b4⟩
              cases hf : fdB m.tx with
              | true => exact .inr rfl
              | false =>
                rcases (a5 hf).1 with e | e
                · exact absurd e hq.1
                · left
                  have : (pkL 43 l2).length = 0 := by omega
                  simpa using this
            · exact b4
          · simp only [pkL]
            split
            · rename_i hq
              simp only [abl, Bool.and_eq_true, Bool.or_eq_true]
              refine ⟨?_, b5⟩
              cases hf : fdB m.tx with
              | true => exact .inr rfl
              | false =>
                rcases (a5 hf).2 with e | e
                · exact absurd e hq.1
                · left
                  have : (pkL 45 l2).length = 0 := by omega
                  simpa using this
            · exact b5
theorem cnt_ok {s : List UInt8} {q n : Int} (h : cntP s = some (q, n)) : 0 ≤ q ∧ q ≤ 2147483647 ∧ 0 ≤ n ∧ n ≤ 2147483647 := by
  unfold cntP at h
  split at h
  · rename_i x c y _
    split at h
    · cases h
      have h1 := prs_num (s := x)
      have h2 := prs_num (s := y)
      omega
    · cases h
  · split at h
    · cases h
      have h1 := prs_num (s := s)
      omega
    · cases h
theorem uhd_ok {s : List UInt8} {A AN B BN : Int} (h : uhdP s = some (A, AN, B, BN)) : (0 ≤ A ∧ A ≤ 2147483647 ∧ 0 ≤ AN ∧ AN ≤ 2147483647) ∧ (0 ≤ B ∧ B ≤ 2147483647 ∧ 0 ≤ BN ∧ BN ≤ 2147483647) := by
  unfold uhdP at h
  split at h
  · split at h
    · cases h
    · split at h
      · cases h
      · split at h
        · split at h
          · rename_i h1 h2
            cases h
            exact ⟨cnt_ok h1, cnt_ok h2⟩
          · cases h
        · cases h
  · cases h
theorem uhk_ok {k p p1 : Nat} {ls r : List (List UInt8)} {h : Hk} (hP : Plain ls) (hh : uhkP k p ls = .ok (h, p1, r)) : chkH h = 0 ∧ Plain r ∧ ls.length + p = r.length + p1 ∧ r.length < ls.length ∧ k < 4096 := by
  unfold uhkP at hh
  split at hh
  · cases hh
  · rename_i s r0 hn
    obtain ⟨a1, a2⟩ := nxt_len hP hn
    split at hh
    · cases hh
    · rename_i A AN B BN hd
      obtain ⟨d1, d2⟩ := uhd_ok hd
      split at hh
      · cases hh
      · rename_i hk
        split at hh
        · cases hh
        · rename_i hz
          split at hh
          · cases hh
          · rename_i l q1 r1 h1
            obtain ⟨b1, b2, b3, b4, b5, b6, b7, b8⟩ := urd_ok _ a2 (Nat.le_refl _) h1
            split at hh
            · cases hh
            · rename_i hs
              cases hh
              refine ⟨?_, b6, by omega, by omega, by omega⟩
              have hfld : fldB l = true := (fld_iff l).2 ⟨b1, b4, b5⟩
              have hrng : rngB ⟨A, AN, B, BN, l⟩ = true := by
                simp only [rngB, nat31, Bool.and_eq_true, Bool.not_eq_true', Bool.and_eq_false_iff, decide_eq_true_eq, decide_eq_false_iff_not]
                omega
              unfold chkH
              rw [if_neg (by rw [hrng]; decide), if_neg (by rw [hfld]; decide), if_neg, if_neg (show ¬ ((l.all fun m => decide (m.sg = 32)) = true) from hs)]
              show ¬ (AN ≠ ((pkL 43 l).length : Int) ∨ BN ≠ ((pkL 45 l).length : Int))
              omega
theorem uhs_ok {x : List UInt8} (f : Nat) : ∀ {k p p1 : Nat} {ls r : List (List UInt8)} {hs : List Hk}, Plain ls → uhsP x f k p ls = .ok (hs, p1, r) → hs ≠ [] ∧ (∀ h ∈ hs, chkH h = 0) ∧ k + hs.length ≤ 4096 ∧ Plain r ∧ ls.length + p = r.length + p1 ∧ r.length < ls.length ∧ pkU x r = false := by
  induction f with
  | zero => intro k p p1 ls r hs _ h; cases h
  | succ f ih =>
    intro k p p1 ls r hs hP h
    simp only [uhsP] at h
    split at h
    · cases h
    · rename_i h0 q1 r1 h1
      obtain ⟨a1, a2, a3, a4, a5⟩ := uhk_ok hP h1
      split at h
      · split at h
        · cases h
        · rename_i l q2 r2 h2
          obtain ⟨b1, b2, b3, b4, b5, b6, b7⟩ := ih a2 h2
          cases h
          refine ⟨by simp, ?_, by simp only [List.length_cons]; omega, b4, by omega, by omega, b7⟩
          intro y hy
          rcases List.mem_cons.1 hy with rfl | hy
          · exact a1
          · exact b2 y hy
      · rename_i hp
        cases h
        refine ⟨by simp, ?_, by simp only [List.length_cons, List.length_nil]; omega, a2, a3, a4, by simpa using hp⟩
        intro y hy
        rw [List.mem_singleton.1 hy]
        exact a1
theorem ups_ok {x : List UInt8} (f : Nat) : ∀ {k p : Nat} {ls : List (List UInt8)} {L : List Pth}, Plain ls → upsP x f k p ls = .ok L → (∀ q ∈ L, Gu q) ∧ (k + L.length ≤ 64 ∨ L = []) := by
  induction f with
  | zero =>
    intro k p ls L _ h
    simp only [upsP] at h
    cases h
    exact ⟨fun q hq => (by cases hq), .inr rfl⟩
  | succ f ih =>
    intro k p ls L hP h
    simp only [upsP] at h
    split at h
    · cases h
      exact ⟨fun q hq => (by cases hq), .inr rfl⟩
    · split at h
      · cases h
      · rename_i n1 r1 h1
        obtain ⟨a1, a2, a3⟩ := nam_ok hP h1
        split at h
        · cases h
        · rename_i hk
          split at h
          · cases h
          · rename_i n2 r2 h2
            obtain ⟨b1, b2, b3⟩ := nam_ok a3 h2
            split at h
            · cases h
            · rename_i hs p3 r3 h3
              obtain ⟨c1, c2, c3, c4, c5, c6, _⟩ := uhs_ok _ b3 h3
              split at h
              · cases h
              · rename_i l h4
                obtain ⟨d1, d2⟩ := ih c4 h4
                cases h
                refine ⟨?_, .inl ?_⟩
                · intro q hq
                  rcases List.mem_cons.1 hq with rfl | hq
                  · exact ⟨c1, a1, b1, by show hs.length ≤ 4096; omega, c2⟩
                  · exact d1 q hq
                · rcases d2 with d2 | rfl
                  · simp only [List.length_cons]
                    omega
                  · simp only [List.length_cons, List.length_nil]
                    omega
/-- what is read are right patches -/
theorem un_right {x t : List UInt8} {L : List Pth} (h : unT x t = .ok L) : (∀ q ∈ L, Gu q) ∧ L.length ≤ 64 := by
  unfold unT at h
  split at h
  · cases h
  · obtain ⟨a1, a2⟩ := ups_ok _ (split_plain t) h
    refine ⟨a1, ?_⟩
    rcases a2 with a2 | rfl
    · omega
    · exact Nat.zero_le _
theorem uwrg_ok {p : Pth} (g : Gu p) : wrgP p = 0 := by
  unfold wrgP
  have := g.old
  have := g.new
  have := g.few
  rw [if_neg (by omega), if_neg (by omega)]
  exact cx_errs g.gd
theorem ups_text {L : List Pth} (h : ∀ q ∈ L, Gu q) : L.flatMap upT = (L.flatMap upL).flatten := by
  induction L with
  | nil => rfl
  | cons p L ih =>
    rw [List.flatMap_cons, List.flatMap_cons, List.flatten_append, ih fun x hx => h x (by simp [hx])]
    unfold upT
    rw [if_pos (uwrg_ok (h p (by simp)))]
/-- what is read is written, and read again, as the same -/
theorem un_again {x t : List UInt8} (hx : Shw x) {L : List Pth} (h : unT x t = .ok L) (hl : (L.flatMap upT).length ≤ 1048576) : unT x (L.flatMap upT) = .ok L := by
  obtain ⟨a1, a2⟩ := un_right h
  rw [ups_text a1] at hl ⊢
  exact un_back hx a1 a2 hl

/- by two bytes, or by four -/
theorem uhk_bad {s : List UInt8} {r : List (List UInt8)} (h : atC.isPrefixOf s = false) (k p : Nat) : uhkP k p (s :: r) = .error (p + 1, 3) := by
  unfold uhkP
  simp only [nxt]
  split
  · rename_i h0
    split at h0
    · cases h0
    · cases h0
      rfl
  · rename_i u q h0
    split at h0
    · rename_i hf
      cases h0
      have : uhdP s.dropLast = none := by
        unfold uhdP
        rw [if_neg]
        intro hq
        have e := fd_form hf
        rw [e] at h
        have : ([64, 64, 32, 45] : List UInt8).isPrefixOf (s.dropLast ++ [10]) = true := by
          rw [List.isPrefixOf_iff_prefix] at hq ⊢
          exact hq.trans (List.prefix_append _ _)
        unfold atC at h
        rw [this] at h
        cases h
      rw [this]
    · cases h0
theorem nam_bad {s : List UInt8} {r : List (List UInt8)} (h : atR.isPrefixOf s = true) (p : Nat) : namP [45, 45, 45, 32] p (s :: r) = .error (p + 1, 3) := by
  unfold namP
  simp only [nxt]
  split
  · rename_i h0
    split at h0
    · cases h0
    · cases h0
      rfl
  · rename_i u q h0
    split at h0
    · rename_i hf
      cases h0
      rw [if_neg]
      intro hq
      rw [List.isPrefixOf_iff_prefix] at h hq
      obtain ⟨y, hy⟩ := h
      obtain ⟨z, hz⟩ := hq
      have e := fd_form hf
      rw [← hz] at e
      rw [← hy] at e
      simp [atR] at e
    · cases h0
theorem pku_both {r : List (List UInt8)} (h : pkU atC r = true) : pkU atR r = true := by
  cases r with
  | nil => cases h
  | cons s r =>
    simp only [pkU] at h ⊢
    rw [List.isPrefixOf_iff_prefix] at h ⊢
    exact (by decide : atR <+: atC).trans h
/-- the hunks of a patch, by two bytes: the same, or what stands behind them is refused -/
theorem uhs_both (f : Nat) : ∀ (k p : Nat) (ls : List (List UInt8)), ls.length < f → Plain ls → uhsP atR f k p ls = uhsP atC f k p ls ∨ ∃ hs p1 s r, uhsP atC f k p ls = .ok (hs, p1, s :: r) ∧ uhsP atR f k p ls = .error (p1 + 1, 3) ∧ atR.isPrefixOf s = true := by
  induction f with
  | zero => intro k p ls h; omega
  | succ f ih =>
    intro k p ls hf hP
    simp only [uhsP]
    cases h1 : uhkP k p ls with
    | error e => exact .inl rfl
    | ok v =>
      obtain ⟨h0, q1, r1⟩ := v
      obtain ⟨a1, a2, a3, a4, a5⟩ := uhk_ok hP h1
      simp only
      cases hc : pkU atC r1 with
      | true =>
        rw [if_pos (pku_both hc), if_pos rfl]
        rcases ih (k + 1) q1 r1 (by omega) a2 with e | ⟨hs, p1, s, r, e1, e2, e3⟩
        · rw [e]
          exact .inl rfl
        · rw [e1, e2]
          exact .inr ⟨h0 :: hs, p1, s, r, rfl, rfl, e3⟩
      | false =>
        rw [if_neg (by decide : ¬ (false = true))]
        cases hr : pkU atR r1 with
        | false => exact .inl rfl
        | true =>
          rw [if_pos rfl]
          cases r1 with
          | nil => cases hr
          | cons s r =>
            have e1 : uhsP atR f (k + 1) q1 (s :: r) = .error (q1 + 1, 3) := by
              cases f with
              | zero => omega
              | succ f =>
                simp only [uhsP]
                rw [uhk_bad hc]
            rw [e1]
            exact .inr ⟨[h0], q1, s, r, rfl, rfl, hr⟩
theorem ups_both (f : Nat) : ∀ (k p : Nat) (ls : List (List UInt8)), ls.length ≤ f → Plain ls → upsP atR f k p ls = upsP atC f k p ls := by
  induction f with
  | zero => intro k p ls h _; rfl
  | succ f ih =>
    intro k p ls hf hP
    simp only [upsP]
    split
    · rfl
    · cases h1 : namP [45, 45, 45, 32] p ls with
      | error e => rfl
      | ok v =>
        obtain ⟨n1, r1⟩ := v
        obtain ⟨a1, a2, a3⟩ := nam_ok hP h1
        simp only
        split
        · rfl
        · cases h2 : namP [43, 43, 43, 32] (p + 1) r1 with
          | error e => rfl
          | ok v =>
            obtain ⟨n2, r2⟩ := v
            obtain ⟨b1, b2, b3⟩ := nam_ok a3 h2
            simp only
            rcases uhs_both (r2.length + 1) 0 (p + 2) r2 (by omega) b3 with e | ⟨hs, p1, s, r, e1, e2, e3⟩
            · rw [e]
              cases h3 : uhsP atC (r2.length + 1) 0 (p + 2) r2 with
              | error e => rfl
              | ok v =>
                obtain ⟨hs, p3, r3⟩ := v
                obtain ⟨c1, c2, c3, c4, c5, c6, _⟩ := uhs_ok _ b3 h3
                simp only
                rw [ih (k + 1) p3 r3 (by omega) c4]
            · rw [e1, e2]
              obtain ⟨c1, c2, c3, c4, c5, c6, _⟩ := uhs_ok _ b3 e1
              simp only [List.length_cons] at c6
              simp only
              cases f with
              | zero => omega
              | succ f =>
                simp only [upsP]
                rw [if_neg (by simp), nam_bad e3]
/-- both ways of reading are one -/
theorem un_both (t : List UInt8) : unT atR t = unT atC t := by
  unfold unT
  split
  · rfl
  · exact ups_both _ 0 0 _ (Nat.le_refl _) (split_plain t)
end Go.Proofs.YtgiojkhmkeocfaaDoor

/- How long a text in the unified form is, and how large what is read of one is; plain mathematics. -/
namespace Go.Proofs.YtgiojkhmkeocfaaDoor
open Ln

theorem uc_len {p n : Int} (hp : 0 ≤ p) (hb : p ≤ 2147483647) (hn : 0 ≤ n) (hm : n ≤ 2147483647) : (ucT p n).length ≤ 61 := by
  have r1 := itoa_short p (by omega) (by omega)
  have r2 := itoa_short n (by omega) (by omega)
  unfold ucT
  split
  · omega
  · simp only [List.length_append, List.length_cons]
    omega
theorem um_len (l : List Mk) : (l.flatMap umL).flatten.length ≤ 31 * l.length + txS l := by
  induction l with
  | nil => exact Nat.le_refl _
  | cons m l ih =>
    have h1 := cln_len [UInt8.ofNat m.sg.toNat] m.tx
    simp only [List.flatMap_cons, List.flatten_append, List.length_append, List.length_cons, List.length_nil, txS, umL] at h1 ih ⊢
    omega
theorem uhl_len {h : Hk} (hc : chkH h = 0) : (uhL h).flatten.length ≤ 200 + 62 * h.ls.length + 2 * txS h.ls := by
  obtain ⟨c1, _⟩ := chk_out hc
  obtain ⟨r1, r2, r3, r4, r5, r6, _⟩ := rng_out c1
  obtain ⟨r7, r8⟩ := rng_hi c1
  have s1 := um_len h.ls
  have s3 := uc_len r1 r2 r3 r7
  have s4 := uc_len r4 r5 r6 r8
  simp only [uhL, uhT, List.flatten_cons, List.length_append, List.length_cons, List.length_nil]
  omega
theorem uhs_len {l : List Hk} (h : ∀ x ∈ l, chkH x = 0) : (l.flatMap uhL).flatten.length ≤ hsS l := by
  induction l with
  | nil => exact Nat.le_refl _
  | cons x l ih =>
    have h1 := ih fun y hy => h y (by simp [hy])
    have h2 := uhl_len (h x (by simp))
    simp only [List.flatMap_cons, List.flatten_append, List.length_append, hsS]
    omega
theorem upl_len {p : Pth} (h : ∀ x ∈ p.hs, chkH x = 0) : (upL p).flatten.length ≤ 32 + 3 * p.old.length + 3 * p.new.length + hsS p.hs := by
  unfold upL
  split
  · exact Nat.zero_le _
  · have h1 := uhs_len h
    have h2 := name_len p.old
    have h3 := name_len p.new
    simp only [List.flatten_cons, List.length_append, List.length_cons, List.length_nil]
    omega
theorem up_len (p : Pth) : (upT p).length ≤ 416 + hsS p.hs := by
  unfold upT
  split
  · rename_i h
    obtain ⟨h1, h2, _, h4⟩ := wrg_out h
    have := upl_len h4
    omega
  · exact Nat.zero_le _
theorem ups_len (L : List Pth) : (L.flatMap upT).length ≤ ptM L := by
  induction L with
  | nil => exact Nat.le_refl _
  | cons p L ih =>
    rw [List.flatMap_cons, List.length_append, ptM]
    have := up_len p
    omega
theorem nxt_szl {p : Nat} {ls r : List (List UInt8)} {s : List UInt8} (h : nxt p ls = .ok (s, r)) : s.length + 2 + szL r ≤ szL ls := by
  have := nxt_ok h
  subst this
  simp only [szL, List.length_append, List.length_cons, List.length_nil]
  omega
theorem uln_sz {a b p p1 : Nat} {ls r : List (List UInt8)} {m : Mk} (h : ulnP a b p ls = .ok (m, p1, r)) : m.tx.length + 1 + szL r ≤ szL ls := by
  unfold ulnP at h
  split at h
  · cases h
  · cases h
  · rename_i c t r0 hn
    have := nxt_szl hn
    have ht := szl_tail r0
    simp only [List.length_cons] at this
    split at h
    · split at h
      · cases h
        dsimp only
        omega
      · cases h
        simp only [List.length_append, List.length_cons, List.length_nil]
        omega
    · cases h
theorem urd_sz (n : Nat) : ∀ {a b p p1 : Nat} {ls r : List (List UInt8)} {l : List Mk}, urdP n a b p ls = .ok (l, p1, r) → l.length + txS l + szL r ≤ szL ls := by
  induction n with
  | zero =>
    intro a b p p1 ls r l h
    simp only [urdP] at h
    cases h
    simp only [txS, List.length_nil]
    omega
  | succ n ih =>
    intro a b p p1 ls r l h
    simp only [urdP] at h
    split at h
    · cases h
      simp only [txS, List.length_nil]
      omega
    · split at h
      · cases h
      · rename_i h1
        have a1 := uln_sz h1
        split at h
        · cases h
        · rename_i h2
          have b1 := ih h2
          cases h
          simp only [txS, List.length_cons]
          omega
theorem uhk_sz {k p p1 : Nat} {ls r : List (List UInt8)} {h : Hk} (hh : uhkP k p ls = .ok (h, p1, r)) : h.ls.length + txS h.ls + szL r + 1 ≤ szL ls := by
  unfold uhkP at hh
  split at hh
  · cases hh
  · rename_i s r0 hn
    have a1 := nxt_sz hn
    split at hh
    · cases hh
    · split at hh
      · cases hh
      · split at hh
        · cases hh
        · split at hh
          · cases hh
          · rename_i h1
            have b1 := urd_sz _ h1
            split at hh
            · cases hh
            · cases hh
              dsimp only
              omega
theorem uhs_sz {x : List UInt8} (f : Nat) : ∀ {k p p1 : Nat} {ls r : List (List UInt8)} {hs : List Hk}, uhsP x f k p ls = .ok (hs, p1, r) → hsS hs + 208 * szL r ≤ 208 * szL ls := by
  induction f with
  | zero => intro k p p1 ls r hs h; cases h
  | succ f ih =>
    intro k p p1 ls r hs h
    simp only [uhsP] at h
    split at h
    · cases h
    · rename_i h0 q1 r1 h1
      have a := uhk_sz h1
      split at h
      · split at h
        · cases h
        · rename_i l q2 r2 h2
          have b := ih h2
          cases h
          simp only [hsS]
          omega
      · cases h
        simp only [hsS]
        omega
theorem upsr_sz {x : List UInt8} (f : Nat) : ∀ {k p : Nat} {ls : List (List UInt8)} {L : List Pth}, upsP x f k p ls = .ok L → ptM L ≤ 208 * szL ls := by
  induction f with
  | zero =>
    intro k p ls L h
    simp only [upsP] at h
    cases h
    exact Nat.zero_le _
  | succ f ih =>
    intro k p ls L h
    simp only [upsP] at h
    split at h
    · cases h
      exact Nat.zero_le _
    · split at h
      · cases h
      · rename_i n1 r1 h1
        have a1 := nam_sz h1
        split at h
        · cases h
        · split at h
          · cases h
          · rename_i n2 r2 h2
            have b1 := nam_sz h2
            split at h
            · cases h
            · rename_i hs p3 r3 h3
              have c1 := uhs_sz _ h3
              split at h
              · cases h
              · rename_i l h4
                have d1 := ih h4
                cases h
                simp only [ptM]
                omega
theorem un_size {x t : List UInt8} {L : List Pth} (h : unT x t = .ok L) : ptM L ≤ 436207616 := by
  unfold unT at h
  split at h
  · cases h
  · rename_i hl
    have := upsr_sz _ h
    rw [szl_len, split_join] at this
    have h2 := split_len t
    omega
end Go.Proofs.YtgiojkhmkeocfaaDoor

/- The code's Print of layer 16, walked: counts, names, the text of a hunk. -/
namespace Go.Proofs.YtgiojkhmkeocfaaDoor
open Go.RowKit Go.Proofs.YtgiojkhmkeocfaaDoor

set_option maxHeartbeats 1000000 in
theorem ucount_f (A N : Int) (h0 : 0 ≤ A) (h1 : A ≤ 4611686018427387904) (h2 : 0 ≤ N) (h3 : N ≤ 4611686018427387900) (w : World) (HT : Hid (Tab10 w)) (T : List UInt8) (HR : Hid (ucT A N = T)) :
    Calls Tryd.prog 100 #[.int .i64 A, .int .i64 N] w fun e w' => e = .returned (.string ⟨T.toArray⟩) ∧ Below w.heap.size w w' := by
  have l1 := itoa_short A (by omega) (by omega)
  have l2 := itoa_short N (by omega) (by omega)
  by_cases hN : N = 1
  · have HE1 : Hid (Lib.itoa A = T) := (by have h := HR.out; unfold ucT at h; rw [if_pos hN] at h; exact h)
    have e1 : (N == 1) = true := beq_iff_eq.2 hN
    clear HR hN
    go_enter Tryd.func100, Tryd.ntmps100
    go_wp2_with fail
    refine (nText_f A (by omega) (by omega) _ HT).mono ?_
    rintro e w1 ⟨rfl, hb1⟩
    go_wp2
    go_ret
    exact ⟨by rw [← HE1.out]; rfl, hb1⟩
  · have HE : Hid (Lib.itoa A ++ 44 :: Lib.itoa N = T) := (by have h := HR.out; unfold ucT at h; rw [if_neg hN] at h; exact h)
    have e1 : (N == 1) = false := beq_eq_false_iff_ne.2 hN
    clear HR hN
    have q1 := add_fits (x := Lib.itoa A) (y := [44]) (by unfold Fits; simp only [List.length_cons, List.length_nil]; omega) Tryd.prog
    have q2 := add_fits (x := Lib.itoa A ++ [44]) (y := Lib.itoa N) (by unfold Fits; simp only [List.length_append, List.length_cons, List.length_nil]; omega) Tryd.prog
    go_enter Tryd.func100, Tryd.ntmps100
    go_wp2_with fail
    refine (nText_f A (by omega) (by omega) _ HT).mono ?_
    rintro e w1 ⟨rfl, hb1⟩
    have HT1 : Hid (Tab10 w1) := HT.out.on hb1
    go_wp2_with fail
    refine (nText_f N (by omega) (by omega) _ HT1).mono ?_
    rintro e w2 ⟨rfl, hb2⟩
    go_wp2
    go_ret
    exact ⟨by rw [← HE.out]; rfl, hb1.trans (hb2.mono hb1.size)⟩
set_option maxHeartbeats 1000000 in
theorem uname_f (l : List UInt8) (w : World) (hl : l.length ≤ 1099511627776) (t : List UInt8) (HT : Hid (nameT l = t)) :
    Calls Tryd.prog 59 #[.string ⟨l.toArray⟩] w fun e w' => e = .returned (.string ⟨t.toArray⟩) ∧ Below w.heap.size w w' := by
  go_enter Tryd.func59, Tryd.ntmps59
  go_wp2_with fail
  refine (cname_f l w hl t HT).mono ?_
  rintro e w1 ⟨rfl, hB⟩
  go_wp2
  go_ret
  exact ⟨rfl, hB⟩
/-- a builder that holds a text -/
def Bu (B b : Nat) (v : Value) (acc : List UInt8) (w : World) : Prop := Bld 61 5 B b v (Lib.byteCells acc) w
theorem Bu.low {B b : Nat} {v : Value} {acc : List UInt8} {w w' : World} (h : Bu B b v acc w) (hb : Below w.heap.size w w') : Bu B b v acc w' := Bld.kept h hb.block
theorem Bu.str {B b : Nat} {v : Value} {acc s Z : List UInt8} {w : World} (h : Bu B b v acc w) (hBw : B ≤ w.heap.size) (hZ : acc ++ s = Z) (hl : Z.length ≤ 70368744177664) :
    Calls Tryd.prog 28 #[.pointer (some ⟨b, 0, none⟩), .string ⟨s.toArray⟩] w fun e w' => (∃ z, e = .returned (.tuple #[z, .nilIface])) ∧ ∃ v', Bu B b v' Z w' ∧ Wr B b v v' w w' := by
  have hll : acc.length + s.length ≤ 70368744177664 := by rw [← hZ, List.length_append] at hl; exact hl
  refine (cStr_f lays_b B b v _ s w h (by rw [bcells_len]; omega) hBw).mono ?_
  rintro e w' ⟨rfl, v', q, hw⟩
  exact ⟨⟨_, rfl⟩, v', by unfold Bu; rw [← hZ, Lib.byteCells_append]; exact q, hw⟩
theorem cw_i64 {u : World} {a : Addr} {z : Int} (h : u.cell? a = some (.int .i64 z)) {op : Oper} (x : Operand) (ho : op.op = .load 3 x) {ev : Operand → Value} (hx : ev x = .pointer (some a)) :
    (execOp ev op).run Tryd.prog u = .ok (.value (.int .i64 z)) u := by
  simp only [execOp, ho, hx]
  go_simp
theorem cw_addU {x y z : List UInt8} (h : ∀ u : World, (Op.stringOp .add ⟨x.toArray⟩ ⟨y.toArray⟩).run Tryd.prog u = .ok (.string ⟨z.toArray⟩) u) {u : World} {op : Oper} (a b : Operand) (ho : op.op = .binOp .add 9 a b 9) {ev : Operand → Value} (ha : ev a = .string ⟨x.toArray⟩) (hb : ev b = .string ⟨y.toArray⟩) :
    (execOp ev op).run Tryd.prog u = .ok (.value (.string ⟨z.toArray⟩)) u := by
  simp only [execOp, ho, ha, hb]
  go_simp
theorem um_flat (m : Mk) : (umL m).flatten = UInt8.ofNat m.sg.toNat :: plT m.tx := by
  unfold umL
  rw [pl_lines]
  rfl
end Go.Proofs.YtgiojkhmkeocfaaDoor

/- The code's writeHunk of layer 16, walked. -/
namespace Go.Proofs.YtgiojkhmkeocfaaDoor
open Go.RowKit Go.Proofs.YtgiojkhmkeocfaaDoor

set_option maxHeartbeats 8000000 in
set_option maxRecDepth 100000 in
theorem uwrite_f (B b : Nat) (v : Value) (h : Hk) (y : Value) (acc Z : List UInt8) (w : World) (hP : Bu B b v acc w) (hBw : B ≤ w.heap.size) (hll : h.ls.length ≤ 1099511627776) (HTx : Hid (∀ m ∈ h.ls, m.tx.length ≤ 1099511627776)) (HC : Hid (chkH h = 0))
    (HL : Hid (∀ u, Below B w u → HMk u y h.ls)) (HT : Hid (∀ u, Below B w u → Tab10 u)) (HZ : Hid (acc ++ (uhL h).flatten = Z)) (hZ : Z.length ≤ 70368744177664) :
    Calls Tryd.prog 60 #[.pointer (some ⟨b, 0, none⟩), hkV h y] w fun e w' => e = .returned (.tuple #[]) ∧ ∃ v', Bu B b v' Z w' ∧ Wr B b v v' w w' := by
  obtain ⟨lo, lc, rfl⟩ := HMk.form (HL.out w (Below.refl _ _))
  have HSg : Hid (∀ m ∈ h.ls, okS m.sg = true) := chk_signs HC.out
  have hr := (chk_out HC.out).1
  obtain ⟨r1, r2, r3, r4, r5, r6, rx⟩ := rng_out hr
  clear rx
  obtain ⟨r7, r8⟩ := rng_hi hr
  have s3 := uc_len r1 r2 r3 r7
  have s4 := uc_len r4 r5 r6 r8
  obtain ⟨A, AN, Bn, BN, ls⟩ := h
  dsimp only at hll r1 r2 r3 r4 r5 r6 r7 r8 s3 s4 HTx HSg HL
  obtain ⟨T1, hT1⟩ : ∃ T, ucT A AN = T := ⟨_, rfl⟩
  obtain ⟨T2, hT2⟩ : ∃ T, ucT Bn BN = T := ⟨_, rfl⟩
  rw [hT1] at s3
  rw [hT2] at s4
  obtain ⟨U1, hU1⟩ : ∃ T, [64, 64, 32, 45] ++ T1 = T := ⟨_, rfl⟩
  obtain ⟨U2, hU2⟩ : ∃ T, U1 ++ [32, 43] = T := ⟨_, rfl⟩
  obtain ⟨U3, hU3⟩ : ∃ T, U2 ++ T2 = T := ⟨_, rfl⟩
  obtain ⟨U4, hU4⟩ : ∃ T, U3 ++ [32, 64, 64] = T := ⟨_, rfl⟩
  obtain ⟨U5, hU5⟩ : ∃ T, U4 ++ [10] = T := ⟨_, rfl⟩
  have n1 := congrArg List.length hU1
  have n2 := congrArg List.length hU2
  have n3 := congrArg List.length hU3
  have n4 := congrArg List.length hU4
  have n5 := congrArg List.length hU5
  simp only [List.length_append, List.length_cons, List.length_nil] at n1 n2 n3 n4 n5
  have q1 := add_fits (x := [64, 64, 32, 45]) (y := T1) (by unfold Fits; simp only [List.length_cons, List.length_nil]; omega) Tryd.prog
  have q2 := add_fits (x := U1) (y := [32, 43]) (by unfold Fits; simp only [List.length_cons, List.length_nil]; omega) Tryd.prog
  have q3 := add_fits (x := U2) (y := T2) (by unfold Fits; omega) Tryd.prog
  have q4 := add_fits (x := U3) (y := [32, 64, 64]) (by unfold Fits; simp only [List.length_cons, List.length_nil]; omega) Tryd.prog
  have q5 := add_fits (x := U4) (y := [10]) (by unfold Fits; simp only [List.length_cons, List.length_nil]; omega) Tryd.prog
  rw [hU1] at q1
  rw [hU2] at q2
  rw [hU3] at q3
  rw [hU4] at q4
  rw [hU5] at q5
  obtain ⟨Z1, hZ1⟩ : ∃ T, acc ++ U5 = T := ⟨_, rfl⟩
  have HZ1 : Hid (acc ++ U5 = Z1) := hZ1
  have HE : Hid (Z1 ++ ((ls.drop 0).flatMap umL).flatten = Z) := (by
    show _ = _
    rw [← HZ.out, ← hZ1, ← hU5, ← hU4, ← hU3, ← hU2, ← hU1, ← hT1, ← hT2, List.drop_zero]
    simp [uhL, uhT])
  have hZ1l : Z1.length ≤ 70368744177664 := (by have h := congrArg List.length HE.out; rw [List.length_append] at h; omega)
  have HT1 : Hid (ucT A AN = T1) := hT1
  have HT2 : Hid (ucT Bn BN = T2) := hT2
  clear HZ hZ1 hU1 hU2 hU3 hU4 hU5 hT1 hT2 n1 n2 n3 n4 n5 hr
  have hBm : Below w.heap.size w (w.alloc (hkO ⟨A, AN, Bn, BN, ls⟩ (.slice lo ls.length lc))) := (Below.refl _ w).alloc (Nat.le_refl _) _
  have hMx := Hx.new w ⟨A, AN, Bn, BN, ls⟩ (.slice lo ls.length lc)
  have hPm := hP.low hBm
  have hWm : Wr B b v v w (w.alloc (hkO ⟨A, AN, Bn, BN, ls⟩ (.slice lo ls.length lc))) := Wr.low hBm hBw
  have hOff : Off w.heap.size b v := ⟨by have := Bld.lt hP; omega, fun e => by have := (hP.2.2.1.lt _ e).2; omega⟩
  have e : hkV ⟨A, AN, Bn, BN, ls⟩ (.slice lo ls.length lc) = .agg #[.int .i64 A, .int .i64 AN, .int .i64 Bn, .int .i64 BN, .slice lo ls.length lc] := rfl
  rw [e]
  unfold hkO at hBm hMx hPm hWm
  dsimp only at hBm hMx hPm hWm
  clear e hP
  go_enter Tryd.func60, Tryd.ntmps60
  go_upto_region 1 with fail
  generalize w.alloc (.cells #[.int .i64 A, .int .i64 AN, .int .i64 Bn, .int .i64 BN, .slice lo ls.length lc] 43) = Wm at hBm hMx hPm hWm ⊢
  generalize w.heap.size = M at hMx hOff ⊢
  refine wp_region_noPanic ?_
  have hwd : Below Wm.heap.size Wm Wm.drew := (Below.refl _ Wm).drew
  refine wp_region_held_drew (S := fun u => Hx u M ⟨A, AN, Bn, BN, ls⟩ (.slice lo ls.length lc)) (by kernel_rfl) (hMx.low hwd) (fun hHeld => ?_)
  generalize Wm.drew = wd at hHeld hwd ⊢
  have cellsOf := fun u (hu : Hx u M ⟨A, AN, Bn, BN, ls⟩ (.slice lo ls.length lc)) => hu.cells
  dsimp only at cellsOf
  refine go_take 0 6 _ (.pointer (some ⟨b, 0, none⟩)) rfl (by kernel_rfl) (by kernel_rfl) (by kernel_rfl) (by kernel_rfl) (fun _ _ _ h => h) (Or.inl ⟨by kernel_rfl, fun u hu => by kernel_rfl⟩) hHeld ?_
  simp only [Act.put, List.setIfInBounds_toArray, List.set_cons_zero, List.set_cons_succ]
  refine go_take 1 7 _ (.pointer (some ⟨M, 0, none⟩)) rfl (by kernel_rfl) (by kernel_rfl) (by kernel_rfl) (by kernel_rfl) (fun _ _ _ h => h) (Or.inl ⟨by kernel_rfl, fun u hu => by kernel_rfl⟩) hHeld ?_
  simp only [Act.put, List.setIfInBounds_toArray, List.set_cons_zero, List.set_cons_succ]
  refine go_take 2 8 _ (.int .i64 A) rfl (by kernel_rfl) (by kernel_rfl) (by kernel_rfl) (by kernel_rfl) (fun _ _ _ h => h) (Or.inl ⟨by kernel_rfl, fun u hu => cw_i64 (cellsOf u hu).1 (.tmp 7) (by kernel_rfl) (by kernel_rfl)⟩) hHeld ?_
  simp only [Act.put, List.setIfInBounds_toArray, List.set_cons_zero, List.set_cons_succ]
  refine go_take 3 9 _ (.pointer (some ⟨M, 1, none⟩)) rfl (by kernel_rfl) (by kernel_rfl) (by kernel_rfl) (by kernel_rfl) (fun _ _ _ h => h) (Or.inl ⟨by kernel_rfl, fun u hu => by kernel_rfl⟩) hHeld ?_
  simp only [Act.put, List.setIfInBounds_toArray, List.set_cons_zero, List.set_cons_succ]
  refine go_take 4 10 _ (.int .i64 AN) rfl (by kernel_rfl) (by kernel_rfl) (by kernel_rfl) (by kernel_rfl) (fun _ _ _ h => h) (Or.inl ⟨by kernel_rfl, fun u hu => cw_i64 (cellsOf u hu).2.1 (.tmp 9) (by kernel_rfl) (by kernel_rfl)⟩) hHeld ?_
  simp only [Act.put, List.setIfInBounds_toArray, List.set_cons_zero, List.set_cons_succ]
  refine go_take 8 14 _ (.pointer (some ⟨M, 2, none⟩)) rfl (by kernel_rfl) (by kernel_rfl) (by kernel_rfl) (by kernel_rfl) (fun _ _ _ h => h) (Or.inl ⟨by kernel_rfl, fun u hu => by kernel_rfl⟩) hHeld ?_
  simp only [Act.put, List.setIfInBounds_toArray, List.set_cons_zero, List.set_cons_succ]
  refine go_take 9 15 _ (.int .i64 Bn) rfl (by kernel_rfl) (by kernel_rfl) (by kernel_rfl) (by kernel_rfl) (fun _ _ _ h => h) (Or.inl ⟨by kernel_rfl, fun u hu => cw_i64 (cellsOf u hu).2.2.1 (.tmp 14) (by kernel_rfl) (by kernel_rfl)⟩) hHeld ?_
  simp only [Act.put, List.setIfInBounds_toArray, List.set_cons_zero, List.set_cons_succ]
  refine go_take 10 16 _ (.pointer (some ⟨M, 3, none⟩)) rfl (by kernel_rfl) (by kernel_rfl) (by kernel_rfl) (by kernel_rfl) (fun _ _ _ h => h) (Or.inl ⟨by kernel_rfl, fun u hu => by kernel_rfl⟩) hHeld ?_
  simp only [Act.put, List.setIfInBounds_toArray, List.set_cons_zero, List.set_cons_succ]
  refine go_take 11 17 _ (.int .i64 BN) rfl (by kernel_rfl) (by kernel_rfl) (by kernel_rfl) (by kernel_rfl) (fun _ _ _ h => h) (Or.inl ⟨by kernel_rfl, fun u hu => cw_i64 (cellsOf u hu).2.2.2.1 (.tmp 16) (by kernel_rfl) (by kernel_rfl)⟩) hHeld ?_
  simp only [Act.put, List.setIfInBounds_toArray, List.set_cons_zero, List.set_cons_succ]
  have hBBm : ∀ u, Below Wm.heap.size Wm u → Below B w u := fun u hu => hWm.below.trans (hu.mono (Nat.le_trans hBw hWm.size))
  refine go_callE 5 11 _ rfl (by kernel_rfl) (by kernel_rfl) (by kernel_rfl) 100 (.func 100) #[.tmp 8, .tmp 10] #[3, 3] (by kernel_rfl) #[] (by kernel_rfl) #[.int .i64 A, .int .i64 AN] (by kernel_rfl) (enters_of Tryd.func100 (by kernel_rfl) rfl) (fun v2 u => v2 = .string ⟨T1.toArray⟩ ∧ Below Wm.heap.size Wm u) ?_ ?_
  · refine (ucount_f A AN r1 (by omega) r3 (by omega) wd (HT.out wd (hBBm wd hwd)) T1 HT1).mono ?_
    rintro e u ⟨rfl, hu⟩
    exact ⟨_, rfl, hHeld.low hu, rfl, hwd.trans (hu.mono hwd.size)⟩
  rintro _ w2 hw2 ⟨rfl, hb2⟩
  simp only [Act.put, List.setIfInBounds_toArray, List.set_cons_zero, List.set_cons_succ]
  refine go_take 6 12 _ (.string ⟨U1.toArray⟩) rfl (by kernel_rfl) (by kernel_rfl) (by kernel_rfl) (by kernel_rfl) (fun _ _ _ h => h) (Or.inl ⟨by kernel_rfl, fun u hu => cw_addU q1 (.const (.string ⟨#[64, 64, 32, 45]⟩)) (.tmp 11) (by kernel_rfl) (by kernel_rfl) (by kernel_rfl)⟩) hw2 ?_
  simp only [Act.put, List.setIfInBounds_toArray, List.set_cons_zero, List.set_cons_succ]
  refine go_take 7 13 _ (.string ⟨U2.toArray⟩) rfl (by kernel_rfl) (by kernel_rfl) (by kernel_rfl) (by kernel_rfl) (fun _ _ _ h => h) (Or.inl ⟨by kernel_rfl, fun u hu => cw_addU q2 (.tmp 12) (.const (.string ⟨#[32, 43]⟩)) (by kernel_rfl) (by kernel_rfl) (by kernel_rfl)⟩) hw2 ?_
  simp only [Act.put, List.setIfInBounds_toArray, List.set_cons_zero, List.set_cons_succ]
  refine go_callE 12 18 _ rfl (by kernel_rfl) (by kernel_rfl) (by kernel_rfl) 100 (.func 100) #[.tmp 15, .tmp 17] #[3, 3] (by kernel_rfl) #[] (by kernel_rfl) #[.int .i64 Bn, .int .i64 BN] (by kernel_rfl) (enters_of Tryd.func100 (by kernel_rfl) rfl) (fun v2 u => v2 = .string ⟨T2.toArray⟩ ∧ Below Wm.heap.size Wm u) ?_ ?_
  · refine (ucount_f Bn BN r4 (by omega) r6 (by omega) w2 (HT.out w2 (hBBm w2 hb2)) T2 HT2).mono ?_
    rintro e u ⟨rfl, hu⟩
    exact ⟨_, rfl, hw2.low hu, rfl, hb2.trans (hu.mono hb2.size)⟩
  rintro _ w3 hw3 ⟨rfl, hb3⟩
  simp only [Act.put, List.setIfInBounds_toArray, List.set_cons_zero, List.set_cons_succ]
  refine go_take 13 19 _ (.string ⟨U3.toArray⟩) rfl (by kernel_rfl) (by kernel_rfl) (by kernel_rfl) (by kernel_rfl) (fun _ _ _ h => h) (Or.inl ⟨by kernel_rfl, fun u hu => cw_addU q3 (.tmp 13) (.tmp 18) (by kernel_rfl) (by kernel_rfl) (by kernel_rfl)⟩) hw3 ?_
  simp only [Act.put, List.setIfInBounds_toArray, List.set_cons_zero, List.set_cons_succ]
  refine go_take 14 20 _ (.string ⟨U4.toArray⟩) rfl (by kernel_rfl) (by kernel_rfl) (by kernel_rfl) (by kernel_rfl) (fun _ _ _ h => h) (Or.inl ⟨by kernel_rfl, fun u hu => cw_addU q4 (.tmp 19) (.const (.string ⟨#[32, 64, 64]⟩)) (by kernel_rfl) (by kernel_rfl) (by kernel_rfl)⟩) hw3 ?_
  simp only [Act.put, List.setIfInBounds_toArray, List.set_cons_zero, List.set_cons_succ]
  refine go_take 15 21 _ (.string ⟨U5.toArray⟩) rfl (by kernel_rfl) (by kernel_rfl) (by kernel_rfl) (by kernel_rfl) (fun _ _ _ h => h) (Or.inl ⟨by kernel_rfl, fun u hu => cw_addU q5 (.tmp 20) (.const (.string ⟨#[10]⟩)) (by kernel_rfl) (by kernel_rfl) (by kernel_rfl)⟩) hw3 ?_
  simp only [Act.put, List.setIfInBounds_toArray, List.set_cons_zero, List.set_cons_succ]
  have hP3 := hPm.low hb3
  have hW3 : Wr B b v v w w3 := hWm.trans (Wr.low hb3 (Nat.le_trans hBw hWm.size))
  refine go_callE 16 22 _ rfl (by kernel_rfl) (by kernel_rfl) (by kernel_rfl) 28 (.func 28) #[.tmp 6, .tmp 21] #[58, 9] (by kernel_rfl) #[] (by kernel_rfl) #[.pointer (some ⟨b, 0, none⟩), .string ⟨U5.toArray⟩] (by kernel_rfl) (enters_of Tryd.func28 (by kernel_rfl) rfl) (fun _ w4 => ∃ v', Bu B b v' Z1 w4 ∧ Wr B b v v' w w4) ?_ ?_
  · refine (hP3.str (Nat.le_trans hBw hW3.size) HZ1.out hZ1l).mono ?_
    rintro e w4 ⟨⟨z, rfl⟩, v4, q4', hw4⟩
    exact ⟨_, rfl, (hw3.wr hw4 hOff).1, v4, q4', hW3.trans hw4⟩
  rintro _ w4 hw4 ⟨v4, hP4, hW4⟩
  simp only [Act.put, List.setIfInBounds_toArray, List.set_cons_zero, List.set_cons_succ]
  refine wpAnyH_done (by kernel_rfl) ?_ _
  refine NoPanic.normal ?_
  obtain ⟨d0, d1, d2, d3, d4⟩ := hw4.cells
  clear q1 q2 q3 q4 q5 hHeld hwd cellsOf hb2 hw2 hb3 hP3 hW3 hPm hWm hMx hBm hOff hBBm HZ1 HT1 HT2 HT
  go_wp2
  clear d0 d1 d2 d3 d4
  go_loopw [26] (fun i wr => ∃ (k : Nat) (v1 : Value) (ac : List UInt8), k ≤ ls.length ∧ i = .int .i64 k ∧ Bu B b v1 ac wr ∧ Wr B b v v1 w wr ∧ Hid (ac ++ ((ls.drop k).flatMap umL).flatten = Z)) (fun i _ => ls.length - (intOf i).toNat)
  case atStart => exact ⟨0, v4, Z1, Nat.zero_le _, by go_num, hP4, hW4, HE⟩
  case round =>
  clear HE hP4 hW4 hw4
  obtain ⟨k, v1, ac, hk, rfl, hP, hW, HI⟩ := hrel
  have hacl : ac.length ≤ 70368744177664 := (by
    have h1 := congrArg List.length HI.out
    rw [List.length_append] at h1
    omega)
  by_cases hlt : k < ls.length
  · have hml := HL.out wr hW.below
    obtain ⟨bk, off, rfl, hbk, hcl⟩ := HMk.at hml (by omega)
    obtain ⟨m, hm⟩ : ∃ m, ls[k] = m := ⟨_, rfl⟩
    obtain ⟨c0, c1⟩ := Low.mk (Below.refl _ wr) hml k hlt hm
    clear hcl
    have htx := HTx.out m (by rw [← hm]; exact List.getElem_mem hlt)
    have hsg := sgn_cases (HSg.out m (by rw [← hm]; exact List.getElem_mem hlt))
    have h0 : 0 ≤ m.sg := by omega
    have h1 : m.sg < 256 := by omega
    have i1 : (0 : Int) ≤ (k : Int) := by omega
    have i2 : (k : Int) < (ls.length : Int) := by omega
    obtain ⟨T, hT⟩ : ∃ T, plT m.tx = T := ⟨_, rfl⟩
    have HTT : Hid (plT m.tx = T) := hT
    obtain ⟨A1, hA1⟩ : ∃ Y, ac ++ [UInt8.ofNat m.sg.toNat] = Y := ⟨_, rfl⟩
    obtain ⟨A2, hA2⟩ : ∃ Y, A1 ++ T = Y := ⟨_, rfl⟩
    have HI2 : Hid (A2 ++ ((ls.drop (k + 1)).flatMap umL).flatten = Z) := (by
      show _ = _
      rw [← HI.out, ← hA2, ← hA1, List.drop_eq_getElem_cons hlt, hm, List.flatMap_cons, List.flatten_append, um_flat, hT]
      simp)
    have hA2l : A2.length ≤ 70368744177664 := (by have h := congrArg List.length HI2.out; rw [List.length_append] at h; omega)
    have HA2 : Hid (A1 ++ T = A2) := hA2
    have HA1 : Hid (Lib.byteCells ac ++ [.int .u8 m.sg] = Lib.byteCells A1) := (by
      show _ = _
      rw [← hA1, Lib.byteCells_append, cell_byte h0 h1])
    have hBm : Below wr.heap.size wr (wr.alloc (.cells #[.int .u8 m.sg, .string ⟨m.tx.toArray⟩] 91)) := (Below.refl _ wr).alloc (Nat.le_refl _) _
    have hMb := heap_alloc_new wr (.cells #[.int .u8 m.sg, .string ⟨m.tx.toArray⟩] 91)
    have hOff : Off wr.heap.size b v1 := ⟨by have := Bld.lt hP; omega, fun e => by have := (hP.2.2.1.lt _ e).2; omega⟩
    have hPm := hP.low hBm
    have hWm := hW.trans (Wr.low hBm (Nat.le_trans hBw hW.size))
    have hbl := bcells_len ac
    clear hT hA1 hA2 hm HI hP hW hBm hml
    have hsz : B ≤ (wr.alloc (.cells #[.int .u8 m.sg, .string ⟨m.tx.toArray⟩] 91)).heap.size := Nat.le_trans hBw hWm.size
    have hlen : (Lib.byteCells ac).length + 1 ≤ 140737488355328 := by omega
    have hPb : Bld 61 5 B b v1 (Lib.byteCells ac) (wr.alloc (.cells #[.int .u8 m.sg, .string ⟨m.tx.toArray⟩] 91)) := hPm
    have hcb := cByte_f lays_b B b v1 (Lib.byteCells ac) m.sg _ hPb hlen hsz
    clear hPb hsz hlen
    go_wp2_with fail
    refine hcb.mono ?_
    rintro e w5 ⟨rfl, v5, q5, hw5⟩
    have hP5 : Bu B b v5 A1 w5 := (by unfold Bu; rw [← HA1.out]; exact q5)
    have hW5 := hWm.trans hw5
    obtain ⟨hM5, hO5⟩ := hw5.block hMb hOff
    have m1 : w5.cell? ⟨wr.heap.size, 1, none⟩ = some (.string ⟨m.tx.toArray⟩) := (by rw [Lib.cell_of_heap hM5]; rfl)
    clear q5 hw5 hWm hPm hMb hOff c0 c1 hcb
    go_wp2_with fail
    refine (pline_f m.tx w5 htx T HTT).mono ?_
    rintro e w6 ⟨rfl, rfl⟩
    go_wp2_with fail
    refine (hP5.str (Nat.le_trans hBw hW5.size) HA2.out hA2l).mono ?_
    rintro e w7 ⟨⟨z, rfl⟩, v7, hP7, hw7⟩
    have hW7 := hW5.trans hw7
    clear m1 hP5 hW5 hw7 hM5 hO5
    go_wp2
    exact ⟨⟨k + 1, v7, A2, by omega, by go_num, hP7, hW7, HI2⟩, by simp [intOf]; omega⟩
  · have hend : decide ((k : Int) < (ls.length : Int)) = false := decide_eq_false (by omega)
    have HE : Hid (ac = Z) := (by
      have h := HI.out
      rw [List.drop_of_length_le (by omega)] at h
      show _ = _
      simpa using h)
    clear HI
    go_wp2
    first
      | go_end0
      | refine bodyPost_ret (results_none rfl _ _ _) rfl ?_
      | refine bodyPost_end (results_none rfl _ _ _) rfl ?_
    exact ⟨rfl, v1, by rw [← HE.out]; exact hP, hW⟩
end Go.Proofs.YtgiojkhmkeocfaaDoor

/- The code's Print of layer 16, walked. -/
namespace Go.Proofs.YtgiojkhmkeocfaaDoor
open Go.RowKit Go.Proofs.YtgiojkhmkeocfaaDoor

set_option maxHeartbeats 8000000 in
set_option maxRecDepth 100000 in
theorem uPrint_f (p : Pth) (q : List (Hk × Value)) (HQ : Hid (q.map (·.1) = p.hs)) (v : Value) (w : World) (hv : HHp w v q) (hok : HOk q) (ho : p.old.length ≤ 1099511627776) (hn : p.new.length ≤ 1099511627776) (HT : Hid (Tab10 w)) (Z : List UInt8) (r : Int) (HR : Hid (wrgP p = r)) (HZ : Hid (upT p = Z)) (hZ : Z.length ≤ 70368744177664) :
    Calls Tryd.prog 21 #[ptV p v] w fun e w' => e = .returned (.tuple #[.string ⟨Z.toArray⟩, .int .i64 r]) ∧ Below w.heap.size w w' := by
  obtain ⟨lo, lc, rfl⟩ := Holds.form hv.row
  have HO := fun h => (wrg_out (p := p) h)
  obtain ⟨old, new, hs⟩ := p
  dsimp only at HQ ho hn
  have hql : hs.length = q.length := (by rw [← HQ.out, List.length_map])
  have hZZ := HZ.out
  unfold upT at hZZ
  rw [HR.out] at hZZ
  have hBm : Below w.heap.size w (w.alloc (.cells #[.string ⟨old.toArray⟩, .string ⟨new.toArray⟩, .slice lo q.length lc] 46)) := (Below.refl _ w).alloc (Nat.le_refl _) _
  have hMx : Px (w.alloc (.cells #[.string ⟨old.toArray⟩, .string ⟨new.toArray⟩, .slice lo q.length lc] 46)) w.heap.size ⟨old, new, hs⟩ (.slice lo q.length lc) := heap_alloc_new w _
  have hvm := hv.keep hBm (Nat.le_refl _)
  have hc := ccheckP_f ⟨old, new, hs⟩ q HQ (.slice lo q.length lc) _ hvm hok ho hn r HR
  have e : ptV ⟨old, new, hs⟩ (.slice lo q.length lc) = .agg #[.string ⟨old.toArray⟩, .string ⟨new.toArray⟩, .slice lo q.length lc] := rfl
  rw [e] at hc ⊢
  obtain ⟨d0, d1, d2⟩ := hMx.cells
  clear e hvm
  by_cases hr0 : r = 0
  · subst hr0
    rw [if_pos rfl] at hZZ
    obtain ⟨o1, o2, o3, o4⟩ := HO HR.out
    dsimp only at o1 o2 o3 o4
    have HCh : Hid (∀ x ∈ hs, chkH x = 0) := o4
    clear o4 HO
    by_cases hq0 : q.length = 0
    · have HE : Hid ([] = Z) := (by
        show _ = _
        rw [← hZZ]
        have : hs = [] := List.eq_nil_of_length_eq_zero (by omega)
        rw [this]
        rfl)
      have i1 : ((q.length : Int) == 0) = true := (by rw [hq0]; rfl)
      clear hZZ HZ hq0 hql
      go_enter Tryd.func21, Tryd.ntmps21
      go_wp2_with fail
      refine hc.mono ?_
      rintro e w1 ⟨rfl, hB1⟩
      have hM1 := hMx.low hB1
      clear d0 d1 d2
      obtain ⟨d0, d1, d2⟩ := hM1.cells
      go_wp2
      go_ret2
      exact ⟨by rw [← HE.out]; rfl, hBm.trans (hB1.mono hBm.size)⟩
    · have hne : hs ≠ [] := (by intro e; rw [e] at hql; simp at hql; omega)
      rw [up_lines (p := ⟨old, new, hs⟩) hne] at hZZ
      dsimp only at hZZ
      obtain ⟨N1, hN1⟩ : ∃ Y, nameT old = Y := ⟨_, rfl⟩
      obtain ⟨N2, hN2⟩ : ∃ Y, nameT new = Y := ⟨_, rfl⟩
      obtain ⟨U1, hU1⟩ : ∃ Y, [45, 45, 45, 32] ++ N1 = Y := ⟨_, rfl⟩
      obtain ⟨U2, hU2⟩ : ∃ Y, [43, 43, 43, 32] ++ N2 = Y := ⟨_, rfl⟩
      obtain ⟨V1, hV1⟩ : ∃ Y, U1 ++ [10] = Y := ⟨_, rfl⟩
      obtain ⟨V2, hV2⟩ : ∃ Y, U2 ++ [10] = Y := ⟨_, rfl⟩
      obtain ⟨Z1, hZ1⟩ : ∃ Y, [] ++ V1 = Y := ⟨_, rfl⟩
      obtain ⟨Z2, hZ2⟩ : ∃ Y, Z1 ++ V2 = Y := ⟨_, rfl⟩
      have HE : Hid (Z2 ++ (((q.map (·.1)).drop 0).flatMap uhL).flatten = Z) := (by
        show _ = _
        rw [← hZZ, ← hZ2, ← hZ1, ← hV1, ← hV2, ← hU1, ← hU2, hN1, hN2, HQ.out, List.drop_zero]
        simp)
      have hE := congrArg List.length HE.out
      have l2 := congrArg List.length hZ2
      have l1 := congrArg List.length hZ1
      simp only [List.length_append] at hE l2 l1
      have b2 : Z2.length ≤ 70368744177664 := by omega
      have b1 : Z1.length ≤ 70368744177664 := by omega
      have n1 := name_len old
      have n2 := name_len new
      rw [hN1] at n1
      rw [hN2] at n2
      have q1 := add_fits (x := [45, 45, 45, 32]) (y := N1) (by unfold Fits; simp only [List.length_cons, List.length_nil]; omega) Tryd.prog
      have q2 := add_fits (x := [43, 43, 43, 32]) (y := N2) (by unfold Fits; simp only [List.length_cons, List.length_nil]; omega) Tryd.prog
      rw [hU1] at q1
      rw [hU2] at q2
      have u1 := congrArg List.length hU1
      have u2 := congrArg List.length hU2
      simp only [List.length_append, List.length_cons, List.length_nil] at u1 u2
      have q3 := add_fits (x := U1) (y := [10]) (by unfold Fits; simp only [List.length_cons, List.length_nil]; omega) Tryd.prog
      have q4 := add_fits (x := U2) (y := [10]) (by unfold Fits; simp only [List.length_cons, List.length_nil]; omega) Tryd.prog
      rw [hV1] at q3
      rw [hV2] at q4
      have HN1 : Hid (nameT old = N1) := hN1
      have HN2 : Hid (nameT new = N2) := hN2
      have HZ1 : Hid ([] ++ V1 = Z1) := hZ1
      have HZ2 : Hid (Z1 ++ V2 = Z2) := hZ2
      have HZne : Hid (Z ≠ []) := (by
        intro e
        have h := congrArg List.length e
        have h2 := congrArg List.length hV1
        simp only [List.length_append, List.length_cons, List.length_nil] at h h2
        omega)
      have i1 : ((q.length : Int) == 0) = false := beq_eq_false_iff_ne.2 (by omega)
      have hq4 : q.length ≤ 4096 := by omega
      clear hZZ HZ hq0 hql hE l1 l2 n1 n2 hN1 hN2 hU1 hU2 hV1 hV2 hZ1 hZ2 hne o3 u1 u2
      go_enter Tryd.func21, Tryd.ntmps21
      go_wp2_with fail
      refine hc.mono ?_
      rintro e w1 ⟨rfl, hB1⟩
      have hM1 := hMx.low hB1
      have hBw1 := hBm.trans (hB1.mono hBm.size)
      clear d0 d1 d2 hBm hMx hB1 hc
      have hM2 := hM1.low ((Below.refl _ w1).alloc (Nat.le_refl _) (.cells #[.pointer none, .slice none 0 0] 61))
      have hBw2 := hBw1.alloc hBw1.size (.cells #[.pointer none, .slice none 0 0] 61)
      have hP2 : Bu w.heap.size w1.heap.size (.slice none 0 0) [] (w1.alloc (.cells #[.pointer none, .slice none 0 0] 61)) := ⟨hBw1.size, ⟨_, .inl rfl, heap_alloc_new w1 _⟩, World.ownsRowF_nil _ _ _ _, by simp [Value.ownBlock]⟩
      have hO2 : Off w.heap.size w1.heap.size (.slice none 0 0) := ⟨by have := hM1.lt; omega, by simp [Value.ownBlock]⟩
      obtain ⟨f0, f1, f2⟩ := hM1.cells
      obtain ⟨d0, d1, d2⟩ := hM2.cells
      go_wp2_with fail
      refine (uname_f old _ ho N1 HN1).mono ?_
      generalize w1.alloc (.cells #[.pointer none, .slice none 0 0] 61) = W2 at hM2 hBw2 hP2 d0 d1 d2 ⊢
      generalize w1.heap.size = b at hP2 hO2 ⊢
      rintro e w3 ⟨rfl, hB3⟩
      have hM3 := hM2.low hB3
      have hP3 := hP2.low hB3
      have hBw3 := hBw2.trans (hB3.mono hBw2.size)
      clear d0 d1 d2 f0 f1 f2 hM2 hP2 hBw2 hB3 hM1 hBw1
      go_wp2_with fail
      refine (hP3.str hBw3.size HZ1.out b1).mono ?_
      rintro e w4 ⟨⟨z4, rfl⟩, v4, hP4, hW4⟩
      obtain ⟨hM4, hO4⟩ := hM3.wr hW4 hO2
      have hBw4 := hBw3.trans hW4.below
      obtain ⟨d0, d1, d2⟩ := hM4.cells
      clear hM3 hP3 hBw3 hO2 hW4
      go_wp2_with fail
      refine (uname_f new _ hn N2 HN2).mono ?_
      rintro e w5 ⟨rfl, hB5⟩
      have hM5 := hM4.low hB5
      have hP5 := hP4.low hB5
      have hBw5 := hBw4.trans (hB5.mono hBw4.size)
      clear d0 d1 d2 hM4 hP4 hBw4 hB5
      go_wp2_with fail
      refine (hP5.str hBw5.size HZ2.out b2).mono ?_
      rintro e w6 ⟨⟨z6, rfl⟩, v6, hP6, hW6⟩
      obtain ⟨hM6, hO6⟩ := hM5.wr hW6 hO4
      have hBw6 := hBw5.trans hW6.below
      obtain ⟨d0, d1, d2⟩ := hM6.cells
      clear hM5 hP5 hBw5 hO4 hW6 q1 q2 q3 q4 HZ1 HZ2 HN1 HN2
      go_wp2
      go_loopw [32] (fun i wr => ∃ (k : Nat) (v1 : Value) (ac : List UInt8), k ≤ q.length ∧ i = .int .i64 k ∧ Bu w.heap.size b v1 ac wr ∧ Below w.heap.size w wr ∧ Hid (ac ++ (((q.map (·.1)).drop k).flatMap uhL).flatten = Z)) (fun i _ => q.length - (intOf i).toNat)
      case atStart => exact ⟨0, v6, Z2, Nat.zero_le _, by go_num, hP6, hBw6, HE⟩
      case round =>
      clear HE hP6 hBw6 hM6 hO6 d0 d1 d2
      obtain ⟨k, v1, ac, hk, rfl, hP, hB, HI⟩ := hrel
      by_cases hlt : k < q.length
      · obtain ⟨bk, off, rfl, hbk, _⟩ := hv.at (by omega)
        obtain ⟨h, y, hx⟩ : ∃ h y, q[k] = (h, y) := ⟨_, _, rfl⟩
        obtain ⟨⟨c0, c1, c2, c3, c4⟩, hm⟩ := HHp.take hv hB k hlt hx
        obtain ⟨x1, x2⟩ := hok.2 q[k] (List.getElem_mem hlt)
        have hins := hv.ins q[k] (List.getElem_mem hlt)
        have hch := HCh.out q[k].1 (by rw [← HQ.out]; exact List.mem_map_of_mem (List.getElem_mem hlt))
        rw [hx] at x1 x2 hins hch
        dsimp only at x1 x2 hins hch
        have HI2 := HI.out
        rw [List.drop_eq_getElem_cons (show k < (q.map (·.1)).length by rw [List.length_map]; exact hlt), List.getElem_map, hx, List.flatMap_cons, List.flatten_append, ← List.append_assoc] at HI2
        dsimp only at HI2
        obtain ⟨A2, hA2⟩ : ∃ Y, ac ++ (uhL h).flatten = Y := ⟨_, rfl⟩
        rw [hA2] at HI2
        have HI3 : Hid (A2 ++ (((q.map (·.1)).drop (k + 1)).flatMap uhL).flatten = Z) := HI2
        have hAl : A2.length ≤ 70368744177664 := (by have := congrArg List.length HI2; rw [List.length_append] at this; omega)
        have i4 : (0 : Int) ≤ (k : Int) := by omega
        have i5 : (k : Int) < (q.length : Int) := by omega
        have hBn : Below wr.heap.size wr (wr.alloc (.cells #[.int .i64 h.A, .int .i64 h.AN, .int .i64 h.B, .int .i64 h.BN, y] 43)) := (Below.refl _ wr).alloc (Nat.le_refl _) _
        have hBm := hB.trans (hBn.mono hB.size)
        have hPm := hP.low hBn
        have hc := uwrite_f w.heap.size b v1 h y ac A2 _ hPm hBm.size x1 x2 hch (fun u hu => hins.keep (hBm.trans hu) (Nat.le_refl _)) (fun u hu => HT.out.on (hBm.trans hu)) hA2 hAl
        obtain ⟨yo, yc, rfl⟩ := HMk.form hm
        have e : hkV h (.slice yo h.ls.length yc) = .agg #[.int .i64 h.A, .int .i64 h.AN, .int .i64 h.B, .int .i64 h.BN, .slice yo h.ls.length yc] := rfl
        rw [e] at hc
        clear e HI HI2 hx hm hins hch hA2
        go_wp2_with fail
        refine hc.mono ?_
        rintro e w7 ⟨rfl, v7, hP7, hW7⟩
        go_wp2
        exact ⟨⟨k + 1, v7, A2, by omega, by go_num, hP7, hBm.trans hW7.below, HI3⟩, by simp [intOf]; omega⟩
      · have hend : decide ((k : Int) < (q.length : Int)) = false := decide_eq_false (by omega)
        have hE : ac = Z := (by
          have h := HI.out
          rw [List.drop_of_length_le (by rw [List.length_map]; omega)] at h
          simpa using h)
        subst hE
        clear HI
        go_wp2_with fail
        refine (cString_f w.heap.size b v1 ac HZne.out wr hP).mono ?_
        rintro e w7 ⟨rfl, hB7⟩
        go_wp2
        go_ret2
        exact ⟨rfl, hB.trans hB7⟩
  · rw [if_neg hr0] at hZZ
    have HE : Hid ([] = Z) := hZZ
    have e1 : (r != 0) = true := bne_iff_ne.2 hr0
    clear hZZ HZ HO hr0
    go_enter Tryd.func21, Tryd.ntmps21
    go_wp2_with fail
    refine hc.mono ?_
    rintro e w1 ⟨rfl, hB1⟩
    go_wp2
    go_ret2
    exact ⟨by rw [← HE.out]; rfl, hBm.trans (hB1.mono hBm.size)⟩
end Go.Proofs.YtgiojkhmkeocfaaDoor

/- What works() of redlinelaw16 prints and reads; plain. -/
namespace Go.Proofs.YtgiojkhmkeocfaaDoor
open Ln

def wkP6 : Pth := ⟨[97], [98], [⟨1, 2, 1, 1, [⟨32, [49, 10]⟩, ⟨45, [50]⟩]⟩]⟩
def wkT6 : List UInt8 := [45, 45, 45, 32, 97, 10, 43, 43, 43, 32, 98, 10, 64, 64, 32, 45, 49, 44, 50, 32, 43, 49, 32, 64, 64, 10, 32, 49, 10, 45, 50, 10, 92, 32, 78, 111, 32, 110, 101, 119, 108, 105, 110, 101, 32, 97, 116, 32, 101, 110, 100, 32, 111, 102, 32, 102, 105, 108, 101, 10]
theorem wk6_wrg : wrgP wkP6 = 0 := by decide
theorem wk_it2 : Lib.itoa 2 = [50] := by
  simp [Lib.itoa]
  rw [Lib.decDigits]
  simp
theorem wk6_text : upT wkP6 = wkT6 := by
  have h1 : ucT 1 2 = [49, 44, 50] := by
    unfold ucT
    rw [if_neg (by decide), wk_it1, wk_it2]
    rfl
  have h2 : ucT 1 1 = [49] := by
    unfold ucT
    rw [if_pos rfl, wk_it1]
  unfold upT
  rw [if_pos wk6_wrg]
  unfold upL
  rw [if_neg (by decide)]
  have hn : ∀ c : UInt8, c = 97 ∨ c = 98 → nameT [c] = [c] := by
    rintro c (rfl | rfl) <;> decide
  have hk : ∀ h : Hk, uhL h = (uhT h ++ [10]) :: h.ls.flatMap umL := fun _ => rfl
  have ht : ∀ h : Hk, uhT h = [64, 64, 32, 45] ++ (ucT h.A h.AN ++ ([32, 43] ++ (ucT h.B h.BN ++ [32, 64, 64]))) := fun _ => rfl
  show List.flatten (([45, 45, 45, 32] ++ nameT [97] ++ [10]) :: ([43, 43, 43, 32] ++ nameT [98] ++ [10]) :: (uhL ⟨1, 2, 1, 1, [⟨32, [49, 10]⟩, ⟨45, [50]⟩]⟩ ++ [])) = wkT6
  rw [hn 97 (.inl rfl), hn 98 (.inr rfl), hk, ht]
  dsimp only
  rw [h1, h2]
  decide
theorem wk6_gp : Gu wkP6 := by
  refine ⟨by decide, by decide, by decide, by decide, ?_⟩
  intro h hh
  rw [List.mem_singleton.1 hh]
  decide
/-- what works reads of it -/
theorem wk6_read : unT atC wkT6 = .ok [wkP6] := by
  have hl : [wkP6].flatMap upT = wkT6 := by
    show upT wkP6 ++ [] = wkT6
    rw [List.append_nil, wk6_text]
  have h1 : ∀ q ∈ [wkP6], Gu q := fun q hq => by rw [List.mem_singleton.1 hq]; exact wk6_gp
  rw [ups_text h1] at hl
  have := un_back (.inr rfl) h1 (by simp) (by rw [hl]; decide)
  rw [hl] at this
  exact this
end Go.Proofs.YtgiojkhmkeocfaaDoor

/- The code's reader of layer 16, walked: what is wrong is thrown; the next line; does a hunk stand next? -/
namespace Go.Proofs.YtgiojkhmkeocfaaDoor
open Go.RowKit Go.Proofs.YtgiojkhmkeocfaaDoor
attribute [local go_sem] ByteArray.extract_mk no_at

/-- a reader: its lines, how many are read -/
def ukO (vL : Value) (p : Int) : Obj := .cells #[vL, .int .i64 p] 105
def Uk (u : World) (R : Nat) (vL : Value) (p : Int) : Prop := u.heap[R]? = some (ukO vL p)
section
variable {u u' : World} {R : Nat} {vL : Value} {p : Int}
theorem Uk.cells (q : Uk u R vL p) : u.cell? ⟨R, 0, none⟩ = some vL ∧ u.cell? ⟨R, 1, none⟩ = some (.int .i64 p) := by
  unfold Uk ukO at q
  refine ⟨?_, ?_⟩ <;> rw [Lib.cell_of_heap q] <;> rfl
theorem Uk.frozen (q : Uk u R vL p) (j : Nat) : u.frozen? ⟨R, j, none⟩ = false := Lib.frozen_of_heap q j
theorem Uk.lt (q : Uk u R vL p) : R < u.heap.size := (Array.getElem?_eq_some_iff.1 q).1
theorem Uk.dN (q : Uk u R vL p) (n : Nat) : Uk (u.drewN n) R vL p := q
theorem Uk.at (q : Uk u R vL p) (p' : Int) : Uk (u.setCell ⟨R, 1, none⟩ (.int .i64 p')) R vL p' := heap_setCell_same u R 1 _ _ (.int .i64 p') q
theorem Uk.low (q : Uk u R vL p) (hg : Below u.heap.size u u') : Uk u' R vL p := (hg.block R q.lt).trans q
theorem Uk.keep (q : Uk u R vL p) {g : Option Nat} (hg : u.grownBy u' g) (hr : some R ≠ g) : Uk u' R vL p := (hg.block R q.lt hr).trans q
end
set_option maxHeartbeats 1000000 in
theorem uthrow_f (a z : Int) (w : World) :
    Calls Tryd.prog 140 #[.int .i64 a, .int .i64 z] w fun x w' => Thr a z x w' ∧ Below w.heap.size w w' := by
  have HQ : Hid ((w.alloc (fltO a z)).heap[w.heap.size]? = some (fltO a z) ∧ Below w.heap.size w (w.alloc (fltO a z))) := ⟨heap_alloc_new w _, (Below.refl _ w).alloc (Nat.le_refl _) _⟩
  go_enter Tryd.func140, Tryd.ntmps140
  go_wp2
  exact ⟨rfl, ⟨_, rfl, HQ.out.1⟩, HQ.out.2⟩
set_option maxHeartbeats 1000000 in
theorem urefuse_f {R : Nat} {vL : Value} {p : Nat} (z : Int) (w : World) (q : Uk w R vL (p : Int)) (hp : p ≤ 4398046511104) :
    Calls Tryd.prog 104 #[.pointer (some ⟨R, 0, none⟩), .int .i64 z] w fun x w' => Thr ((p : Int) + 1) z x w' ∧ w.grownBy w' (some R) := by
  obtain ⟨c0, c1⟩ := q.cells
  clear q
  go_enter Tryd.func104, Tryd.ntmps104
  go_wp2_with fail
  refine (uthrow_f ((p : Int) + 1) z w).mono ?_
  rintro x w1 ⟨⟨g, rfl, hg⟩, hb⟩
  go_wp2
  exact ⟨rfl, ⟨_, rfl, hg⟩, low_grown hb _⟩
set_option maxHeartbeats 4000000 in
theorem urline_f {R : Nat} {L : List (List UInt8)} {lo : Option Addr} {lc : Nat} {p : Nat} (w : World) (q : Uk w R (.slice lo L.length lc) p) (hL : HS w (.slice lo L.length lc) L) (hp : p ≤ L.length) (hLl : L.length ≤ 2199023255552) (hs : ∀ s ∈ L, s.length ≤ 1099511627776)
    (X : Except (Nat × Int) (List UInt8 × List (List UInt8))) (HX : Hid (nxt p (L.drop p) = X)) :
    Calls Tryd.prog 138 #[.pointer (some ⟨R, 0, none⟩)] w fun x w' => LnQ R (.slice lo L.length lc) p X w x w' := by
  have hX := HX.out
  clear HX
  by_cases hlt : p < L.length
  · rw [nxt_drop hlt] at hX
    obtain ⟨bk, off, rfl, hbk, hcl⟩ := HS.at hL (by omega)
    have d4 := hcl p hlt
    have hsl := hs L[p] (List.getElem_mem _)
    generalize L[p] = s at d4 hsl hX
    clear hcl hs hL
    obtain ⟨c0, c1⟩ := q.cells
    have e0 : ((p : Int) == (L.length : Int)) = false := beq_eq_false_iff_ne.2 (by omega)
    have i1 : (0 : Int) ≤ (p : Int) := by omega
    have i2 : (p : Int) < (L.length : Int) := by omega
    have i3 : (p : Int).toNat = p := by omega
    cases hf : fdB s with
    | true =>
      rw [if_pos hf] at hX
      subst hX
      have HD : Hid (s.dropLast ++ [10] = s) := drop_feed hf
      clear q
      go_enter Tryd.func138, Tryd.ntmps138
      go_wp2_with fail
      go_quiet (fail)
      go_wp2_with fail
      have c0' : (w.drewN nq).cell? ⟨R, 0, none⟩ = _ := c0
      have c1' : (w.drewN nq).cell? ⟨R, 1, none⟩ = _ := c1
      have d4' : (w.drewN nq).cell? ⟨bk, off + p, none⟩ = _ := d4
      have HM : Hid (∀ n, ∃ k, (w.drewN nq).drewN n = w.drewN k) := fun n => ⟨_, World.drewN_drewN w nq n⟩
      clear c0 c1 d4
      generalize w.drewN nq = W1 at c0' c1' d4' HM ⊢
      have j1 : (0 : Int) ≤ (p : Int) := by omega
      have j2 : (p : Int) < (L.length : Int) := by omega
      have j3 : (p : Int).toNat = p := by omega
      go_quiet (fail)
      go_wp2_with fail
      refine (Tryd.strings_HasSuffix ⟨s.toArray⟩ ⟨#[10]⟩ _ (by show s.length ≤ _; omega)).mono ?_
      rintro e w2 ⟨rfl, rfl⟩
      have e1 : Lib.hasSuffix (⟨s.toArray⟩ : ByteArray).data.toList (⟨#[10]⟩ : ByteArray).data.toList = true := (suf_feed s).trans hf
      rw [e1]
      clear e1 hf
      go_wp2
      go_ret
      refine ⟨?_, HM.out _⟩
      rw [HD.out]
      rfl
    | false =>
      rw [if_neg (by rw [hf]; decide)] at hX
      subst hX
      have q0 := q
      clear q
      go_enter Tryd.func138, Tryd.ntmps138
      go_wp2_with fail
      go_quiet (fail)
      go_wp2_with fail
      have c0' : (w.drewN nq).cell? ⟨R, 0, none⟩ = _ := c0
      have c1' : (w.drewN nq).cell? ⟨R, 1, none⟩ = _ := c1
      have d4' : (w.drewN nq).cell? ⟨bk, off + p, none⟩ = _ := d4
      have HM : Hid (∀ n, w.grownBy ((w.drewN nq).drewN n) (some R)) := fun n => grown_drewN (grown_drewN (low_grown (Below.refl _ _) _) nq) n
      have HQ : Hid (∀ n, Uk ((w.drewN nq).drewN n) R (.slice (some ⟨bk, off, none⟩) L.length lc) p) := fun n => (q0.dN nq).dN n
      clear c0 c1 d4 q0
      generalize w.drewN nq = W1 at c0' c1' d4' HM HQ ⊢
      have j1 : (0 : Int) ≤ (p : Int) := by omega
      have j2 : (p : Int) < (L.length : Int) := by omega
      have j3 : (p : Int).toNat = p := by omega
      go_quiet (fail)
      go_wp2_with fail
      refine (Tryd.strings_HasSuffix ⟨s.toArray⟩ ⟨#[10]⟩ _ (by show s.length ≤ _; omega)).mono ?_
      rintro e w2 ⟨rfl, rfl⟩
      have e1 : Lib.hasSuffix (⟨s.toArray⟩ : ByteArray).data.toList (⟨#[10]⟩ : ByteArray).data.toList = false := (suf_feed s).trans hf
      rw [e1]
      clear e1 hf
      go_wp2_with fail
      refine (urefuse_f 3 _ (HQ.out _) (by omega)).mono ?_
      rintro e w3 ⟨⟨g, rfl, hg⟩, hgr⟩
      go_wp2
      exact ⟨rfl, ⟨_, rfl, hg⟩, grown_two (HM.out _) hgr⟩
  · rw [nxt_end (by omega)] at hX
    subst hX
    obtain ⟨c0, c1⟩ := q.cells
    have e0 : ((p : Int) == (L.length : Int)) = true := beq_iff_eq.2 (by omega)
    have HM : Hid (∀ n, w.grownBy (w.drewN n) (some R)) := fun n => grown_drewN (low_grown (Below.refl _ _) _) n
    have HQ : Hid (∀ n, Uk (w.drewN n) R (.slice lo L.length lc) p) := fun n => q.dN n
    clear q hs hL
    go_enter Tryd.func138, Tryd.ntmps138
    go_wp2_with fail
    go_quiet (fail)
    go_wp2_with fail
    refine (urefuse_f 1 _ (HQ.out _) (by omega)).mono ?_
    rintro e w3 ⟨⟨g, rfl, hg⟩, hgr⟩
    go_wp2
    exact ⟨rfl, ⟨_, rfl, hg⟩, grown_two (HM.out _) hgr⟩
theorem pkU_at {L : List (List UInt8)} {p : Nat} (h : p < L.length) : pkU atC (L.drop p) = atC.isPrefixOf L[p] := by
  rw [List.drop_eq_getElem_cons h]
  rfl
set_option maxHeartbeats 4000000 in
theorem uatHunk_f {R : Nat} {L : List (List UInt8)} {lo : Option Addr} {lc : Nat} {p : Nat} (w : World) (q : Uk w R (.slice lo L.length lc) p) (hL : HS w (.slice lo L.length lc) L) (hp : p ≤ L.length) (hLl : L.length ≤ 2199023255552) (r : Bool) (HR : Hid (pkU atC (L.drop p) = r)) :
    Calls Tryd.prog 105 #[.pointer (some ⟨R, 0, none⟩)] w fun x w' => x = .returned (.bool r) ∧ ∃ n, w' = w.drewN n := by
  obtain ⟨c0, c1⟩ := q.cells
  by_cases hlt : p < L.length
  · obtain ⟨bk, off, rfl, hbk, hcl⟩ := HS.at hL (by omega)
    have d4 := hcl p hlt
    have HR2 := HR.out
    rw [pkU_at hlt] at HR2
    generalize L[p] = s at d4 HR2
    have hd : decide ((p : Int) < (L.length : Int)) = true := decide_eq_true (by omega)
    have i1 : (0 : Int) ≤ (p : Int) := by omega
    have i2 : (p : Int) < (L.length : Int) := by omega
    have i3 : (p : Int).toNat = p := by omega
    have hhp : ∀ u, Calls Tryd.prog 141 #[.string ⟨s.toArray⟩, .string ⟨atC.toArray⟩] u fun e w' => e = .returned (.bool r) ∧ w' = u := (by
      intro u
      refine (Tryd.strings_HasPrefix ⟨s.toArray⟩ ⟨atC.toArray⟩ u).mono ?_
      rintro e w' ⟨rfl, rfl⟩
      have e1 : Lib.hasPrefix (⟨s.toArray⟩ : ByteArray).data.toList (⟨atC.toArray⟩ : ByteArray).data.toList = r := HR2
      rw [e1]
      exact ⟨rfl, rfl⟩)
    clear hcl hL q HR HR2
    go_enter Tryd.func105, Tryd.ntmps105
    go_wp2_with fail
    go_quiet ((go_at_call 141; exact Calls.quiet_of_same (hhp _)))
    go_wp2
    go_ret
    exact ⟨rfl, _, rfl⟩
  · have HE : Hid (false = r) := (by have h := HR.out; rw [List.drop_of_length_le (by omega)] at h; exact h)
    have hd : decide ((p : Int) < (L.length : Int)) = false := decide_eq_false (by omega)
    clear hL q HR
    go_enter Tryd.func105, Tryd.ntmps105
    go_wp2_with fail
    go_quiet (fail)
    go_wp2
    go_ret
    exact ⟨by rw [← HE.out]; rfl, _, rfl⟩
set_option maxHeartbeats 1000000 in
theorem uNamed_f (s : List UInt8) (w : World) (hl : s.length ≤ 1099511627776) (n : List UInt8) (r : Bool) (HN : Hid (unC s = n)) (HR : Hid (nokC s = r)) :
    Calls Tryd.prog 139 #[.string ⟨s.toArray⟩] w fun e w' => e = .returned (pnV r n) ∧ Below w.heap.size w w' := by
  have hf := cnamed_f s w hl n r HN HR
  cases r with
  | true =>
    have hf2 : Calls Tryd.prog 163 #[.string ⟨s.toArray⟩] w fun e w' => e = .returned (.tuple #[.string ⟨n.toArray⟩, .int .i64 0]) ∧ Below w.heap.size w w' := hf
    clear hf
    go_enter Tryd.func139, Tryd.ntmps139
    go_wp2_with fail
    refine hf2.mono ?_
    rintro e w1 ⟨rfl, hB⟩
    go_wp2
    go_ret2
    exact ⟨rfl, hB⟩
  | false =>
    have hf2 : Calls Tryd.prog 163 #[.string ⟨s.toArray⟩] w fun e w' => e = .returned (.tuple #[.string ⟨#[]⟩, .int .i64 253]) ∧ Below w.heap.size w w' := hf
    clear hf
    go_enter Tryd.func139, Tryd.ntmps139
    go_wp2_with fail
    refine hf2.mono ?_
    rintro e w1 ⟨rfl, hB⟩
    go_wp2
    go_ret2
    exact ⟨rfl, hB⟩
end Go.Proofs.YtgiojkhmkeocfaaDoor
