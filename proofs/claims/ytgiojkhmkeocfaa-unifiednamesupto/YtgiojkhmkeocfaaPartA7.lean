/-
  Texts that belong together, joined: UnM2, UnM3, NoJn, NoTx, NoB, NoRf, NoCg, NoPr, CxLen, CpX, UnLen, CwA, Copy, CwB, CqL.
-/
import Derived.Test.YtgiojkhmkeocfaaPartA6
import Derived.Test.YtgiojkhmkeocfaaPartA2
import Derived.Lib.ItoaNum
import Derived.Laws.IdiomStrings
import Derived.Test.YtgiojkhmkeocfaaPartA5
import Derived.Test.YtgiojkhmkeocfaaPartA3
import Derived.Deep.RegionHeld3
import Derived.Deep.CutBlock
import Derived.Deep.DeepCutAuto
import Derived.Test.YtgiojkhmkeocfaaPartA4
import Derived.Test.YtgiojkhmkeocfaaPartA1
import Derived.Lib.FrozenHead2
import Derived.Shelf.Strings.Builder1
import Derived.Test.YtgiojkhmkeocfaaProg
import Derived.WalkKit
import Derived.WalkSpells
import Derived.WalkLawsBesides
import Derived.BigQuiet

/- The unified form: hunks and patches are read as they were written; plain mathematics. -/
namespace Go.Proofs.Ytgiojkhmkeocfaa
open Ln

theorem cutS_app {d : UInt8} {x o : List UInt8} (ho : ∀ c ∈ o, c ≠ d) (r : List UInt8) : cutS (d :: x) (o ++ ((d :: x) ++ r)) = some (o, r) := by
  induction o with
  | nil =>
    show cutS (d :: x) (d :: (x ++ r)) = some ([], r)
    unfold cutS
    rw [if_pos (by rw [List.isPrefixOf_iff_prefix]; exact List.prefix_append (d :: x) r)]
    simp
  | cons c o ih =>
    have hi := ih fun y hy => ho y (by simp [hy])
    show cutS (d :: x) (c :: (o ++ ((d :: x) ++ r))) = some (c :: o, r)
    unfold cutS
    rw [if_neg, hi]
    have hc := ho c (by simp)
    simp only [List.isPrefixOf, Bool.and_eq_true, beq_iff_eq]
    exact fun q => hc q.1.symm
theorem uc_bytes {p n : Int} (hp : 0 ≤ p) (hn : 0 ≤ n) : ∀ c ∈ ucT p n, numC c = true := by
  unfold ucT
  split
  · intro c hc
    simp [numC, itoa_dig hp c hc]
  · intro c hc
    rcases List.mem_append.1 hc with hc | hc
    · simp [numC, itoa_dig hp c hc]
    · rcases List.mem_cons.1 hc with rfl | hc
      · decide
      · simp [numC, itoa_dig hn c hc]
theorem num_blank {c : UInt8} (h : numC c = true) : c ≠ 32 := by
  intro e
  subst e
  exact absurd h (by decide)
theorem cnt_back {p n : Int} (hp : 0 ≤ p) (hb : p ≤ 2147483647) (hn : 0 ≤ n) (hm : n ≤ 2147483647) : cntP (ucT p n) = some (p, n) := by
  obtain ⟨e1, e2⟩ := parse_itoa_ok hp hb
  obtain ⟨e3, e4⟩ := parse_itoa_ok hn hm
  unfold ucT cntP
  by_cases h : n = 1
  · rw [if_pos h, spB_none fun c hc => (dig_facts (itoa_dig hp c hc)).2.1]
    simp only
    rw [if_pos e2, e1, h]
  · rw [if_neg h, spB_app (fun c hc => (dig_facts (itoa_dig hp c hc)).2.1) rfl]
    simp only
    rw [if_pos ⟨e2, e4⟩, e1, e3]
theorem rng_hi {h : Hk} (hr : rngB h = true) : h.AN ≤ 2147483647 ∧ h.BN ≤ 2147483647 := by
  simp [rngB, nat31] at hr
  omega
theorem uhd_back {h : Hk} (hr : rngB h = true) : uhdP (uhT h) = some (h.A, h.AN, h.B, h.BN) := by
  obtain ⟨r1, r2, r3, r4, r5, r6, _⟩ := rng_out hr
  obtain ⟨r7, r8⟩ := rng_hi hr
  unfold uhdP
  have e : uhT h = [64, 64, 32, 45] ++ (ucT h.A h.AN ++ ([32, 43] ++ (ucT h.B h.BN ++ [32, 64, 64]))) := rfl
  rw [if_pos (by rw [e, List.isPrefixOf_iff_prefix]; exact List.prefix_append _ _)]
  have e4 : (uhT h).drop 4 = ucT h.A h.AN ++ ([32, 43] ++ (ucT h.B h.BN ++ [32, 64, 64])) := rfl
  rw [e4, cutS_app (fun c hc => num_blank (uc_bytes r1 r3 c hc))]
  simp only
  have e5 : ucT h.B h.BN ++ [32, 64, 64] = ucT h.B h.BN ++ ([32, 64, 64] ++ []) := by simp
  rw [e5, cutS_app (fun c hc => num_blank (uc_bytes r4 r6 c hc))]
  simp only
  rw [if_pos (show tlB [] = true from rfl), cnt_back r1 r2 r3 r7, cnt_back r4 r5 r6 r8]
/-- what is known of a sign -/
theorem sgn_cases {s : Int} (h : okS s = true) : s = 32 ∨ s = 45 ∨ s = 43 := by
  simp [okS] at h
  omega
theorem um_first (l : List Mk) (hl : ∀ m ∈ l, okS m.sg = true) {rest : List (List UInt8)} (hr : pkM rest = false) : pkM (l.flatMap umL ++ rest) = false := by
  cases l with
  | nil => exact hr
  | cons m l =>
    have h : UInt8.ofNat m.sg.toNat ≠ 92 := by
      rcases sgn_cases (hl m (by simp)) with e | e | e <;> rw [e] <;> decide
    simp only [List.flatMap_cons, umL, lnL]
    split
    · exact pkM_first rfl h
    · exact pkM_first rfl h
theorem pk_len43 {m : Mk} (h : okS m.sg = true) (l : List Mk) : (pkL 43 (m :: l)).length = sgO m + (pkL 43 l).length := by
  unfold sgO
  simp only [pkL]
  by_cases e : m.sg = 43
  · rw [if_neg (fun q => q.1 e), if_pos e]
    omega
  · rw [if_pos ⟨e, h⟩, if_neg e, List.length_cons]
    omega
theorem pk_len45 {m : Mk} (h : okS m.sg = true) (l : List Mk) : (pkL 45 (m :: l)).length = sgN m + (pkL 45 l).length := by
  unfold sgN
  simp only [pkL]
  by_cases e : m.sg = 45
  · rw [if_neg (fun q => q.1 e), if_pos e]
    omega
  · rw [if_pos ⟨e, h⟩, if_neg e, List.length_cons]
    omega
theorem abl_43 {m : Mk} {l : List Mk} (h : okS m.sg = true) (ha : abl (pkL 43 (m :: l)) = true) : abl (pkL 43 l) = true ∧ (fdB m.tx = false → m.sg = 43 ∨ (pkL 43 l).length = 0) := by
  simp only [pkL] at ha
  by_cases e : m.sg = 43
  · rw [if_neg (fun q => q.1 e)] at ha
    exact ⟨ha, fun _ => .inl e⟩
  · rw [if_pos ⟨e, h⟩] at ha
    simp only [abl, Bool.and_eq_true, Bool.or_eq_true] at ha
    refine ⟨ha.2, fun hf => .inr ?_⟩
    rcases ha.1 with q | q
    · simpa using q
    · rw [hf] at q
      cases q
theorem abl_45 {m : Mk} {l : List Mk} (h : okS m.sg = true) (ha : abl (pkL 45 (m :: l)) = true) : abl (pkL 45 l) = true ∧ (fdB m.tx = false → m.sg = 45 ∨ (pkL 45 l).length = 0) := by
  simp only [pkL] at ha
  by_cases e : m.sg = 45
  · rw [if_neg (fun q => q.1 e)] at ha
    exact ⟨ha, fun _ => .inl e⟩
  · rw [if_pos ⟨e, h⟩] at ha
    simp only [abl, Bool.and_eq_true, Bool.or_eq_true] at ha
    refine ⟨ha.2, fun hf => .inr ?_⟩
    rcases ha.1 with q | q
    · simpa using q
    · rw [hf] at q
      cases q
theorem sgn_take {m : Mk} (h : okS m.sg = true) : okC (UInt8.ofNat m.sg.toNat) = true ∧ tkO (UInt8.ofNat m.sg.toNat) = sgO m ∧ tkN (UInt8.ofNat m.sg.toNat) = sgN m ∧ (((UInt8.ofNat m.sg.toNat).toNat : Nat) : Int) = m.sg ∧ ((UInt8.ofNat m.sg.toNat == 43) = decide (m.sg = 43)) ∧ ((UInt8.ofNat m.sg.toNat == 45) = decide (m.sg = 45)) ∧ UInt8.ofNat m.sg.toNat ≠ 10 := by
  unfold sgO sgN
  rcases sgn_cases h with e | e | e <;> rw [e] <;> decide
/-- a line is read as it was written -/
theorem uln_back {m : Mk} (hl : linB m.tx = true) (hs : okS m.sg = true) {a b : Nat} (h43 : fdB m.tx = false → m.sg = 43 ∨ a = 0) (h45 : fdB m.tx = false → m.sg = 45 ∨ b = 0) (p : Nat) {R : List (List UInt8)} (hR : pkM R = false) : ulnP (sgO m + a) (sgN m + b) p (umL m ++ R) = .ok (m, p + (umL m).length, R) := by
  obtain ⟨t1, t2, t3, t4, t5, t6, _⟩ := sgn_take hs
  obtain ⟨l1, l2⟩ := lin_no hl
  unfold umL lnL ulnP
  generalize UInt8.ofNat m.sg.toNat = c at t1 t2 t3 t4 t5 t6 ⊢
  by_cases hf : fdB m.tx = true
  · rw [if_pos hf]
    have e1 := fd_form hf
    have e2 : nxt p ([[c] ++ m.tx] ++ R) = .ok (c :: m.tx.dropLast, R) := by
      have := nxt_feed (s := c :: m.tx.dropLast) p R
      rw [List.cons_append, ← e1] at this
      exact this
    rw [e2]
    simp only
    rw [if_pos ⟨t1, by omega, by omega⟩, if_neg (fun q => by rw [hR] at q; exact absurd q.2.2 (by decide)), ← e1]
    have e3 : (⟨(c.toNat : Int), m.tx⟩ : Mk) = m := by rw [t4]
    rw [e3]
    rfl
  · rw [if_neg hf]
    have hf' : fdB m.tx = false := by simpa using hf
    have e2 : nxt p ([[c] ++ m.tx ++ [10], markT] ++ R) = .ok (c :: m.tx, markT :: R) := nxt_feed (s := c :: m.tx) p (markT :: R)
    rw [e2]
    simp only
    have e4 : uendB c (sgO m + a - tkO c) (sgN m + b - tkN c) = true := by
      rw [t2, t3, Nat.add_sub_cancel_left, Nat.add_sub_cancel_left]
      unfold uendB
      rw [t5, t6]
      simp only [Bool.and_eq_true, Bool.or_eq_true, decide_eq_true_eq, beq_iff_eq]
      exact ⟨h43 hf', h45 hf'⟩
    rw [if_pos ⟨t1, by omega, by omega⟩, if_pos ⟨e4, l1, rfl⟩]
    have e3 : (⟨(c.toNat : Int), m.tx⟩ : Mk) = m := by rw [t4]
    rw [e3]
    rfl
theorem urd_back (l : List Mk) : ∀ (n p : Nat) (rest : List (List UInt8)), (∀ m ∈ l, linB m.tx = true ∧ okS m.sg = true) → abl (pkL 43 l) = true → abl (pkL 45 l) = true → (pkL 43 l).length + (pkL 45 l).length ≤ n → pkM rest = false → urdP n (pkL 43 l).length (pkL 45 l).length p (l.flatMap umL ++ rest) = .ok (l, p + (l.flatMap umL).length, rest) := by
  induction l with
  | nil =>
    intro n p rest _ _ _ _ _
    cases n with
    | zero => rfl
    | succ n => rfl
  | cons m l ih =>
    intro n p rest hl h43 h45 hn hr
    obtain ⟨m1, m2⟩ := hl m (by simp)
    have hl2 : ∀ x ∈ l, linB x.tx = true ∧ okS x.sg = true := fun x hx => hl x (by simp [hx])
    obtain ⟨a1, a2⟩ := abl_43 m2 h43
    obtain ⟨b1, b2⟩ := abl_45 m2 h45
    have k43 := pk_len43 m2 l
    have k45 := pk_len45 m2 l
    have hs : 1 ≤ sgO m + sgN m := by
      unfold sgO sgN
      by_cases e : m.sg = 43
      · rw [if_neg (by omega : ¬ m.sg = 45)]
        omega
      · rw [if_neg e]
        omega
    cases n with
    | zero => omega
    | succ n =>
      rw [k43, k45] at hn ⊢
      simp only [urdP, List.flatMap_cons, List.append_assoc]
      rw [if_neg (by omega), uln_back m1 m2 a2 b2 p (um_first l (fun x hx => (hl2 x hx).2) hr)]
      simp only
      rw [Nat.add_sub_cancel_left, Nat.add_sub_cancel_left, ih n _ rest hl2 a1 b1 (by omega) hr]
      simp only [List.length_append]
      congr 3
      omega
theorem chk_sm {h : Hk} (hc : chkH h = 0) : smB h.ls = false := (chk_out hc).2.2.2.2
/-- a hunk is read as it was written -/
theorem uhk_back {h : Hk} (hc : chkH h = 0) {k : Nat} (hk : k < 4096) (p : Nat) {rest : List (List UInt8)} (hr : pkM rest = false) : uhkP k p (uhL h ++ rest) = .ok (h, p + (uhL h).length, rest) := by
  obtain ⟨c1, c2, c3, c4, c5⟩ := chk_out hc
  obtain ⟨r1, r2, r3, r4, r5, r6, r7, r8⟩ := rng_out c1
  obtain ⟨f1, f2, f3⟩ := (fld_iff h.ls).1 c2
  unfold uhkP uhL
  rw [List.cons_append, nxt_feed]
  simp only
  rw [uhd_back c1]
  simp only
  rw [if_neg (by omega), if_neg (by omega)]
  have e1 : h.AN.toNat = (pkL 43 h.ls).length := by
    have : h.AN = ((pkL 43 h.ls).length : Int) := c3
    omega
  have e2 : h.BN.toNat = (pkL 45 h.ls).length := by
    have : h.BN = ((pkL 45 h.ls).length : Int) := c4
    omega
  rw [e1, e2, urd_back h.ls _ (p + 1) rest f1 f2 f3 (Nat.le_refl _) hr]
  simp only
  rw [if_neg (by rw [chk_sm hc]; decide)]
  simp only [List.length_cons]
  congr 3
  omega
/-- a right patch that has hunks -/
structure Gu (p : Pth) : Prop where
  ne : p.hs ≠ []
  old : p.old.length ≤ 64
  new : p.new.length ≤ 64
  few : p.hs.length ≤ 4096
  gd : ∀ h ∈ p.hs, chkH h = 0
/-- the bytes by which a line shows that it begins a hunk -/
def Shw (x : List UInt8) : Prop := x = atR ∨ x = atC
theorem uh_pk (h : Hk) (r : List (List UInt8)) : pkM (uhL h ++ r) = false := pkM_first (c := 64) rfl (by decide)
theorem uh_show {x : List UInt8} (hx : Shw x) (h : Hk) (r : List (List UInt8)) : pkU x (uhL h ++ r) = true := by
  rcases hx with rfl | rfl <;> rfl
theorem uhs_back {x : List UInt8} (hx : Shw x) (hs : List Hk) : ∀ (f k p : Nat) (rest : List (List UInt8)), hs ≠ [] → (∀ h ∈ hs, chkH h = 0) → k + hs.length ≤ 4096 → hs.length ≤ f → pkM rest = false → pkU x rest = false → uhsP x f k p (hs.flatMap uhL ++ rest) = .ok (hs, p + (hs.flatMap uhL).length, rest) := by
  induction hs with
  | nil => intro f k p rest h; exact absurd rfl h
  | cons h hs ih =>
    intro f k p rest _ hg hk hf hb hr
    cases f with
    | zero => exact absurd hf (by simp)
    | succ f =>
      simp only [List.length_cons] at hk hf
      have hgh := hg h (by simp)
      simp only [List.flatMap_cons, List.append_assoc, uhsP]
      cases hs with
      | nil =>
        simp only [List.flatMap_nil, List.nil_append, List.append_nil]
        rw [uhk_back hgh (by omega) p hb]
        simp only
        rw [if_neg (by rw [hr]; decide)]
      | cons h2 hs =>
        have hi := ih f (k + 1) (p + (uhL h).length) rest (by simp) (fun y hy => hg y (by simp [hy])) (by omega) (by omega) hb hr
        have hb2 : pkM ((h2 :: hs).flatMap uhL ++ rest) = false := by
          rw [List.flatMap_cons, List.append_assoc]
          exact uh_pk h2 _
        rw [uhk_back hgh (by omega) p hb2]
        simp only
        have hp : pkU x ((h2 :: hs).flatMap uhL ++ rest) = true := by
          rw [List.flatMap_cons, List.append_assoc]
          exact uh_show hx h2 _
        rw [if_pos hp, hi]
        simp only [List.length_append]
        congr 3
        omega
theorem up_lines {p : Pth} (h : p.hs ≠ []) : upL p = ([45, 45, 45, 32] ++ nameT p.old ++ [10]) :: ([43, 43, 43, 32] ++ nameT p.new ++ [10]) :: p.hs.flatMap uhL := by
  unfold upL
  rw [if_neg h]
theorem ups_beh {x : List UInt8} (hx : Shw x) {L : List Pth} (h : ∀ p ∈ L, Gu p) : pkM (L.flatMap upL) = false ∧ pkU x (L.flatMap upL) = false := by
  cases L with
  | nil => exact ⟨rfl, rfl⟩
  | cons p L =>
    rw [List.flatMap_cons, up_lines (h p (by simp)).ne]
    refine ⟨rfl, ?_⟩
    rcases hx with rfl | rfl <;> rfl
theorem uhk_few (hs : List Hk) : hs.length ≤ (hs.flatMap uhL).length := by
  induction hs with
  | nil => exact Nat.le_refl _
  | cons h hs ih =>
    simp only [List.flatMap_cons, List.length_append, List.length_cons]
    have : 1 ≤ (uhL h).length := by simp [uhL]
    omega
theorem ups_back {x : List UInt8} (hx : Shw x) (L : List Pth) : ∀ (f k p : Nat), (∀ q ∈ L, Gu q) → k + L.length ≤ 64 → L.length ≤ f → upsP x f k p (L.flatMap upL) = .ok L := by
  induction L with
  | nil =>
    intro f k p _ _ _
    cases f with
    | zero => rfl
    | succ f => rfl
  | cons q L ih =>
    intro f k p hg hk hf
    cases f with
    | zero => exact absurd hf (by simp)
    | succ f =>
      have g := hg q (by simp)
      have hg2 : ∀ y ∈ L, Gu y := fun y hy => hg y (by simp [hy])
      simp only [List.length_cons] at hk hf
      simp only [List.flatMap_cons, upsP]
      rw [up_lines g.ne]
      rw [if_neg (by simp)]
      simp only [List.cons_append]
      have n1 := name_back (ah := [45, 45, 45, 32]) g.old rfl p (([43, 43, 43, 32] ++ nameT q.new ++ [10]) :: (q.hs.flatMap uhL ++ L.flatMap upL))
      have n2 := name_back (ah := [43, 43, 43, 32]) g.new rfl (p + 1) (q.hs.flatMap uhL ++ L.flatMap upL)
      simp only [List.cons_append, List.nil_append] at n1 n2 ⊢
      rw [n1]
      simp only
      rw [if_neg (by omega), n2]
      simp only
      obtain ⟨b1, b2⟩ := ups_beh hx hg2
      rw [uhs_back hx q.hs _ 0 (p + 2) _ g.ne g.gd (by have := g.few; omega) (by have := uhk_few q.hs; simp only [List.length_append]; omega) b1 b2]
      simp only
      rw [ih f (k + 1) _ hg2 (by omega) (by omega)]
theorem fed_uh {h : Hk} (hc : chkH h = 0) : Fed (uhL h) := by
  obtain ⟨c1, c2, c3, c4, c5⟩ := chk_out hc
  obtain ⟨r1, r2, r3, r4, r5, r6, r7, r8⟩ := rng_out c1
  have f1 := ((fld_iff h.ls).1 c2).1
  unfold uhL
  refine fed_cons ?_ ?_
  · intro c hc
    unfold uhT at hc
    simp only [List.mem_append, List.mem_cons, List.not_mem_nil, or_false] at hc
    rcases hc with (rfl | rfl | rfl | rfl) | hc | (rfl | rfl) | hc | rfl | rfl | rfl
    all_goals first
      | decide
      | exact (num_facts (uc_bytes r1 r3 c hc)).2.1
      | exact (num_facts (uc_bytes r4 r6 c hc)).2.1
  · intro s hs
    obtain ⟨m, hm, hs⟩ := List.mem_flatMap.1 hs
    obtain ⟨g1, g2⟩ := f1 m hm
    refine fed_line ?_ g1 s hs
    intro c hc
    rw [List.mem_singleton.1 hc]
    exact (sgn_take g2).2.2.2.2.2.2
theorem fed_ups {L : List Pth} (h : ∀ p ∈ L, Gu p) : Fed (L.flatMap upL) := by
  intro s hs
  obtain ⟨p, hp, hs⟩ := List.mem_flatMap.1 hs
  have g := h p hp
  rw [up_lines g.ne] at hs
  refine fed_cons ?_ (fed_cons ?_ ?_) s hs
  · intro c hc
    rcases List.mem_append.1 hc with hc | hc
    · exact (by decide : ∀ c ∈ ([45, 45, 45, 32] : List UInt8), c ≠ 10) c hc
    · exact name_plain _ c hc
  · intro c hc
    rcases List.mem_append.1 hc with hc | hc
    · exact (by decide : ∀ c ∈ ([43, 43, 43, 32] : List UInt8), c ≠ 10) c hc
    · exact name_plain _ c hc
  · intro y hy
    obtain ⟨k, hk, hy⟩ := List.mem_flatMap.1 hy
    exact fed_uh (g.gd k hk) y hy
/-- patches are read as they were written -/
theorem un_back {x : List UInt8} (hx : Shw x) {L : List Pth} (h : ∀ p ∈ L, Gu p) (hn : L.length ≤ 64) (hl : ((L.flatMap upL).flatten).length ≤ 1048576) : unT x (L.flatMap upL).flatten = .ok L := by
  unfold unT
  rw [if_neg (by omega), right_split _ (fed_check (fed_ups h))]
  refine ups_back hx L _ 0 0 h (by omega) ?_
  clear hn hl
  induction L with
  | nil => exact Nat.le_refl _
  | cons p L ih =>
    have := ih fun y hy => h y (by simp [hy])
    simp only [List.flatMap_cons, List.length_append, List.length_cons]
    rw [up_lines (h p (by simp)).ne]
    simp only [List.length_cons]
    omega
end Go.Proofs.Ytgiojkhmkeocfaa

/- The unified form: what is read of a text are right patches, and their texts are read again as the same; it does not matter by how many bytes a line shows that it begins a hunk; plain mathematics. -/
namespace Go.Proofs.Ytgiojkhmkeocfaa
open Ln

theorem okc_cases {c : UInt8} (h : okC c = true) : c = 32 ∨ c = 45 ∨ c = 43 := by
  simp only [okC, Bool.or_eq_true, beq_iff_eq] at h
  rcases h with (h | h) | h
  · exact .inl h
  · exact .inr (.inl h)
  · exact .inr (.inr h)
theorem tk_sg {c : UInt8} (h : okC c = true) (t : List UInt8) : okS (⟨c.toNat, t⟩ : Mk).sg = true ∧ sgO ⟨c.toNat, t⟩ = tkO c ∧ sgN ⟨c.toNat, t⟩ = tkN c ∧ ((c == 43) = decide (((c.toNat : Nat) : Int) = 43)) ∧ ((c == 45) = decide (((c.toNat : Nat) : Int) = 45)) := by
  unfold sgO sgN
  rcases okc_cases h with rfl | rfl | rfl <;> exact ⟨rfl, rfl, rfl, rfl, rfl⟩
theorem uln_ok {a b p p1 : Nat} {ls r : List (List UInt8)} {m : Mk} (hP : Plain ls) (h : ulnP a b p ls = .ok (m, p1, r)) : linB m.tx = true ∧ okS m.sg = true ∧ sgO m ≤ a ∧ sgN m ≤ b ∧ (fdB m.tx = false → (m.sg = 43 ∨ a - sgO m = 0) ∧ (m.sg = 45 ∨ b - sgN m = 0)) ∧ Plain r ∧ ls.length + p = r.length + p1 ∧ r.length < ls.length := by
  unfold ulnP at h
  split at h
  · cases h
  · cases h
  · rename_i c t r0 hn
    have hls := nxt_ok hn
    obtain ⟨a1, a2⟩ := nxt_len hP hn
    have hct : ∀ d ∈ t, d ≠ 10 := by
      have h0 := hP ((c :: t) ++ [10]) (by rw [hls]; simp)
      rw [List.dropLast_concat] at h0
      exact fun d hd => h0 d (by simp [hd])
    split at h
    · rename_i hc
      obtain ⟨hc1, hc2, hc3⟩ := hc
      split at h
      · rename_i he
        cases h
        obtain ⟨s1, s2, s3, s4, s5⟩ := tk_sg hc1 t
        obtain ⟨he1, he2, he3⟩ := he
        have hlen : r0.tail.length + 1 = r0.length := by
          cases r0 with
          | nil => exact absurd he3 (by decide)
          | cons => simp
        refine ⟨lin_bare hct he2, s1, by rw [s2]; exact hc2, by rw [s3]; exact hc3, fun _ => ?_, fun y hy => a2 y (List.mem_of_mem_tail hy), by omega, by omega⟩
        unfold uendB at he1
        rw [s4, s5] at he1
        simp only [Bool.and_eq_true, Bool.or_eq_true, decide_eq_true_eq, beq_iff_eq] at he1
        rw [s2, s3]
        exact he1
      · cases h
        obtain ⟨s1, s2, s3, s4, s5⟩ := tk_sg hc1 (t ++ [10])
        refine ⟨lin_feed hct, s1, by rw [s2]; exact hc2, by rw [s3]; exact hc3, fun hf => ?_, a2, by omega, by omega⟩
        rw [fd_snoc] at hf
        cases hf
    · cases h
theorem urd_ok (n : Nat) : ∀ {a b p p1 : Nat} {ls r : List (List UInt8)} {l : List Mk}, Plain ls → a + b ≤ n → urdP n a b p ls = .ok (l, p1, r) → (∀ m ∈ l, linB m.tx = true ∧ okS m.sg = true) ∧ (pkL 43 l).length = a ∧ (pkL 45 l).length = b ∧ abl (pkL 43 l) = true ∧ abl (pkL 45 l) = true ∧ Plain r ∧ ls.length + p = r.length + p1 ∧ r.length ≤ ls.length := by
  induction n with
  | zero =>
    intro a b p p1 ls r l hP hn h
    simp only [urdP] at h
    cases h
    refine ⟨fun m hm => (by cases hm), ?_, ?_, rfl, rfl, hP, rfl, Nat.le_refl _⟩
    · simp only [pkL, List.length_nil]; omega
    · simp only [pkL, List.length_nil]; omega
  | succ n ih =>
    intro a b p p1 ls r l hP hn h
    simp only [urdP] at h
    split at h
    · cases h
      refine ⟨fun m hm => (by cases hm), ?_, ?_, rfl, rfl, hP, rfl, Nat.le_refl _⟩
      · simp only [pkL, List.length_nil]; omega
      · simp only [pkL, List.length_nil]; omega
    · split at h
      · cases h
      · rename_i m q1 r1 h1
        obtain ⟨a1, a2, a3, a4, a5, a6, a7, a8⟩ := uln_ok hP h1
        split at h
        · cases h
        · rename_i l2 q2 r2 h2
          have hs : 1 ≤ sgO m + sgN m := by
            unfold sgO sgN
            by_cases e : m.sg = 43
            · rw [if_neg (by omega : ¬ m.sg = 45)]
              omega
            · rw [if_neg e]
              omega
          obtain ⟨b1, b2, b3, b4, b5, b6, b7, b8⟩ := ih a6 (by omega) h2
          cases h
          have k43 := pk_len43 a2 l2
          have k45 := pk_len45 a2 l2
          refine ⟨?_, by omega, by omega, ?_, ?_, b6, by omega, by omega⟩
          · intro x hx
            rcases List.mem_cons.1 hx with rfl | hx
            · exact ⟨a1, a2⟩
            · exact b1 x hx
          · simp only [pkL]
            split
            · rename_i hq
              simp only [abl, Bool.and_eq_true, Bool.or_eq_true]
              refine ⟨?_, b4⟩
              cases hf : fdB m.tx with
              | true => exact .inr rfl
              | false =>
                rcases (a5 hf).1 with e | e
                · exact absurd e hq.1
                · left
                  have : (pkL 43 l2).length = 0 := by omega
                  simpa using this
            · exact b4
          · simp only [pkL]
            split
            · rename_i hq
              simp only [abl, Bool.and_eq_true, Bool.or_eq_true]
              refine ⟨?_, b5⟩
              cases hf : fdB m.tx with
              | true => exact .inr rfl
              | false =>
                rcases (a5 hf).2 with e | e
                · exact absurd e hq.1
                · left
                  have : (pkL 45 l2).length = 0 := by omega
                  simpa using this
            · exact b5
theorem cnt_ok {s : List UInt8} {q n : Int} (h : cntP s = some (q, n)) : 0 ≤ q ∧ q ≤ 2147483647 ∧ 0 ≤ n ∧ n ≤ 2147483647 := by
  unfold cntP at h
  split at h
  · rename_i x c y _
    split at h
    · cases h
      have h1 := prs_num (s := x)
      have h2 := prs_num (s := y)
      omega
    · cases h
  · split at h
    · cases h
      have h1 := prs_num (s := s)
      omega
    · cases h
theorem uhd_ok {s : List UInt8} {A AN B BN : Int} (h : uhdP s = some (A, AN, B, BN)) : (0 ≤ A ∧ A ≤ 2147483647 ∧ 0 ≤ AN ∧ AN ≤ 2147483647) ∧ (0 ≤ B ∧ B ≤ 2147483647 ∧ 0 ≤ BN ∧ BN ≤ 2147483647) := by
  unfold uhdP at h
  split at h
  · split at h
    · cases h
    · split at h
      · cases h
      · split at h
        · split at h
          · rename_i h1 h2
            cases h
            exact ⟨cnt_ok h1, cnt_ok h2⟩
          · cases h
        · cases h
  · cases h
theorem uhk_ok {k p p1 : Nat} {ls r : List (List UInt8)} {h : Hk} (hP : Plain ls) (hh : uhkP k p ls = .ok (h, p1, r)) : chkH h = 0 ∧ Plain r ∧ ls.length + p = r.length + p1 ∧ r.length < ls.length ∧ k < 4096 := by
  unfold uhkP at hh
  split at hh
  · cases hh
  · rename_i s r0 hn
    obtain ⟨a1, a2⟩ := nxt_len hP hn
    split at hh
    · cases hh
    · rename_i A AN B BN hd
      obtain ⟨d1, d2⟩ := uhd_ok hd
      split at hh
      · cases hh
      · rename_i hk
        split at hh
        · cases hh
        · rename_i hz
          split at hh
          · cases hh
          · rename_i l q1 r1 h1
            obtain ⟨b1, b2, b3, b4, b5, b6, b7, b8⟩ := urd_ok _ a2 (Nat.le_refl _) h1
            split at hh
            · cases hh
            · rename_i hs
              cases hh
              refine ⟨?_, b6, by omega, by omega, by omega⟩
              have hfld : fldB l = true := (fld_iff l).2 ⟨b1, b4, b5⟩
              have hrng : rngB ⟨A, AN, B, BN, l⟩ = true := by
                simp only [rngB, nat31, Bool.and_eq_true, Bool.not_eq_true', Bool.and_eq_false_iff, decide_eq_true_eq, decide_eq_false_iff_not]
                omega
              unfold chkH
              rw [if_neg (by rw [hrng]; decide), if_neg (by rw [hfld]; decide), if_neg, if_neg (show ¬ ((l.all fun m => decide (m.sg = 32)) = true) from hs)]
              show ¬ (AN ≠ ((pkL 43 l).length : Int) ∨ BN ≠ ((pkL 45 l).length : Int))
              omega
theorem uhs_ok {x : List UInt8} (f : Nat) : ∀ {k p p1 : Nat} {ls r : List (List UInt8)} {hs : List Hk}, Plain ls → uhsP x f k p ls = .ok (hs, p1, r) → hs ≠ [] ∧ (∀ h ∈ hs, chkH h = 0) ∧ k + hs.length ≤ 4096 ∧ Plain r ∧ ls.length + p = r.length + p1 ∧ r.length < ls.length ∧ pkU x r = false := by
  induction f with
  | zero => intro k p p1 ls r hs _ h; cases h
  | succ f ih =>
    intro k p p1 ls r hs hP h
    simp only [uhsP] at h
    split at h
    · cases h
    · rename_i h0 q1 r1 h1
      obtain ⟨a1, a2, a3, a4, a5⟩ := uhk_ok hP h1
      split at h
      · split at h
        · cases h
        · rename_i l q2 r2 h2
          obtain ⟨b1, b2, b3, b4, b5, b6, b7⟩ := ih a2 h2
          cases h
          refine ⟨by simp, ?_, by simp only [List.length_cons]; omega, b4, by omega, by omega, b7⟩
          intro y hy
          rcases List.mem_cons.1 hy with rfl | hy
          · exact a1
          · exact b2 y hy
      · rename_i hp
        cases h
        refine ⟨by simp, ?_, by simp only [List.length_cons, List.length_nil]; omega, a2, a3, a4, by simpa using hp⟩
        intro y hy
        rw [List.mem_singleton.1 hy]
        exact a1
theorem ups_ok {x : List UInt8} (f : Nat) : ∀ {k p : Nat} {ls : List (List UInt8)} {L : List Pth}, Plain ls → upsP x f k p ls = .ok L → (∀ q ∈ L, Gu q) ∧ (k + L.length ≤ 64 ∨ L = []) := by
  induction f with
  | zero =>
    intro k p ls L _ h
    simp only [upsP] at h
    cases h
    exact ⟨fun q hq => (by cases hq), .inr rfl⟩
  | succ f ih =>
    intro k p ls L hP h
    simp only [upsP] at h
    split at h
    · cases h
      exact ⟨fun q hq => (by cases hq), .inr rfl⟩
    · split at h
      · cases h
      · rename_i n1 r1 h1
        obtain ⟨a1, a2, a3⟩ := nam_ok hP h1
        split at h
        · cases h
        · rename_i hk
          split at h
          · cases h
          · rename_i n2 r2 h2
            obtain ⟨b1, b2, b3⟩ := nam_ok a3 h2
            split at h
            · cases h
            · rename_i hs p3 r3 h3
              obtain ⟨c1, c2, c3, c4, c5, c6, _⟩ := uhs_ok _ b3 h3
              split at h
              · cases h
              · rename_i l h4
                obtain ⟨d1, d2⟩ := ih c4 h4
                cases h
                refine ⟨?_, .inl ?_⟩
                · intro q hq
                  rcases List.mem_cons.1 hq with rfl | hq
                  · exact ⟨c1, a1, b1, by show hs.length ≤ 4096; omega, c2⟩
                  · exact d1 q hq
                · rcases d2 with d2 | rfl
                  · simp only [List.length_cons]
                    omega
                  · simp only [List.length_cons, List.length_nil]
                    omega
/-- what is read are right patches -/
theorem un_right {x t : List UInt8} {L : List Pth} (h : unT x t = .ok L) : (∀ q ∈ L, Gu q) ∧ L.length ≤ 64 := by
  unfold unT at h
  split at h
  · cases h
  · obtain ⟨a1, a2⟩ := ups_ok _ (split_plain t) h
    refine ⟨a1, ?_⟩
    rcases a2 with a2 | rfl
    · omega
    · exact Nat.zero_le _
theorem uwrg_ok {p : Pth} (g : Gu p) : wrgP p = 0 := by
  unfold wrgP
  have := g.old
  have := g.new
  have := g.few
  rw [if_neg (by omega), if_neg (by omega)]
  exact cx_errs g.gd
theorem ups_text {L : List Pth} (h : ∀ q ∈ L, Gu q) : L.flatMap upT = (L.flatMap upL).flatten := by
  induction L with
  | nil => rfl
  | cons p L ih =>
    rw [List.flatMap_cons, List.flatMap_cons, List.flatten_append, ih fun x hx => h x (by simp [hx])]
    unfold upT
    rw [if_pos (uwrg_ok (h p (by simp)))]
/-- what is read is written, and read again, as the same -/
theorem un_again {x t : List UInt8} (hx : Shw x) {L : List Pth} (h : unT x t = .ok L) (hl : (L.flatMap upT).length ≤ 1048576) : unT x (L.flatMap upT) = .ok L := by
  obtain ⟨a1, a2⟩ := un_right h
  rw [ups_text a1] at hl ⊢
  exact un_back hx a1 a2 hl

/- by two bytes, or by four -/
theorem uhk_bad {s : List UInt8} {r : List (List UInt8)} (h : atC.isPrefixOf s = false) (k p : Nat) : uhkP k p (s :: r) = .error (p + 1, 3) := by
  unfold uhkP
  simp only [nxt]
  split
  · rename_i h0
    split at h0
    · cases h0
    · cases h0
      rfl
  · rename_i u q h0
    split at h0
    · rename_i hf
      cases h0
      have : uhdP s.dropLast = none := by
        unfold uhdP
        rw [if_neg]
        intro hq
        have e := fd_form hf
        rw [e] at h
        have : ([64, 64, 32, 45] : List UInt8).isPrefixOf (s.dropLast ++ [10]) = true := by
          rw [List.isPrefixOf_iff_prefix] at hq ⊢
          exact hq.trans (List.prefix_append _ _)
        unfold atC at h
        rw [this] at h
        cases h
      rw [this]
    · cases h0
theorem nam_bad {s : List UInt8} {r : List (List UInt8)} (h : atR.isPrefixOf s = true) (p : Nat) : namP [45, 45, 45, 32] p (s :: r) = .error (p + 1, 3) := by
  unfold namP
  simp only [nxt]
  split
  · rename_i h0
    split at h0
    · cases h0
    · cases h0
      rfl
  · rename_i u q h0
    split at h0
    · rename_i hf
      cases h0
      rw [if_neg]
      intro hq
      rw [List.isPrefixOf_iff_prefix] at h hq
      obtain ⟨y, hy⟩ := h
      obtain ⟨z, hz⟩ := hq
      have e := fd_form hf
      rw [← hz] at e
      rw [← hy] at e
      simp [atR] at e
    · cases h0
theorem pku_both {r : List (List UInt8)} (h : pkU atC r = true) : pkU atR r = true := by
  cases r with
  | nil => cases h
  | cons s r =>
    simp only [pkU] at h ⊢
    rw [List.isPrefixOf_iff_prefix] at h ⊢
    exact (by decide : atR <+: atC).trans h
/-- the hunks of a patch, by two bytes: the same, or what stands behind them is refused -/
theorem uhs_both (f : Nat) : ∀ (k p : Nat) (ls : List (List UInt8)), ls.length < f → Plain ls → uhsP atR f k p ls = uhsP atC f k p ls ∨ ∃ hs p1 s r, uhsP atC f k p ls = .ok (hs, p1, s :: r) ∧ uhsP atR f k p ls = .error (p1 + 1, 3) ∧ atR.isPrefixOf s = true := by
  induction f with
  | zero => intro k p ls h; omega
  | succ f ih =>
    intro k p ls hf hP
    simp only [uhsP]
    cases h1 : uhkP k p ls with
    | error e => exact .inl rfl
    | ok v =>
      obtain ⟨h0, q1, r1⟩ := v
      obtain ⟨a1, a2, a3, a4, a5⟩ := uhk_ok hP h1
      simp only
      cases hc : pkU atC r1 with
      | true =>
        rw [if_pos (pku_both hc), if_pos rfl]
        rcases ih (k + 1) q1 r1 (by omega) a2 with e | ⟨hs, p1, s, r, e1, e2, e3⟩
        · rw [e]
          exact .inl rfl
        · rw [e1, e2]
          exact .inr ⟨h0 :: hs, p1, s, r, rfl, rfl, e3⟩
      | false =>
        rw [if_neg (by decide : ¬ (false = true))]
        cases hr : pkU atR r1 with
        | false => exact .inl rfl
        | true =>
          rw [if_pos rfl]
          cases r1 with
          | nil => cases hr
          | cons s r =>
            have e1 : uhsP atR f (k + 1) q1 (s :: r) = .error (q1 + 1, 3) := by
              cases f with
              | zero => omega
              | succ f =>
                simp only [uhsP]
                rw [uhk_bad hc]
            rw [e1]
            exact .inr ⟨[h0], q1, s, r, rfl, rfl, hr⟩
theorem ups_both (f : Nat) : ∀ (k p : Nat) (ls : List (List UInt8)), ls.length ≤ f → Plain ls → upsP atR f k p ls = upsP atC f k p ls := by
  induction f with
  | zero => intro k p ls h _; rfl
  | succ f ih =>
    intro k p ls hf hP
    simp only [upsP]
    split
    · rfl
    · cases h1 : namP [45, 45, 45, 32] p ls with
      | error e => rfl
      | ok v =>
        obtain ⟨n1, r1⟩ := v
        obtain ⟨a1, a2, a3⟩ := nam_ok hP h1
        simp only
        split
        · rfl
        · cases h2 : namP [43, 43, 43, 32] (p + 1) r1 with
          | error e => rfl
          | ok v =>
            obtain ⟨n2, r2⟩ := v
            obtain ⟨b1, b2, b3⟩ := nam_ok a3 h2
            simp only
            rcases uhs_both (r2.length + 1) 0 (p + 2) r2 (by omega) b3 with e | ⟨hs, p1, s, r, e1, e2, e3⟩
            · rw [e]
              cases h3 : uhsP atC (r2.length + 1) 0 (p + 2) r2 with
              | error e => rfl
              | ok v =>
                obtain ⟨hs, p3, r3⟩ := v
                obtain ⟨c1, c2, c3, c4, c5, c6, _⟩ := uhs_ok _ b3 h3
                simp only
                rw [ih (k + 1) p3 r3 (by omega) c4]
            · rw [e1, e2]
              obtain ⟨c1, c2, c3, c4, c5, c6, _⟩ := uhs_ok _ b3 e1
              simp only [List.length_cons] at c6
              simp only
              cases f with
              | zero => omega
              | succ f =>
                simp only [upsP]
                rw [if_neg (by simp), nam_bad e3]
/-- both ways of reading are one -/
theorem un_both (t : List UInt8) : unT atR t = unT atC t := by
  unfold unT
  split
  · rfl
  · exact ups_both _ 0 0 _ (Nat.le_refl _) (split_plain t)
end Go.Proofs.Ytgiojkhmkeocfaa

/- Two texts joined. -/
namespace Go.Proofs.Ytgiojkhmkeocfaa

theorem ba_join (a b : List UInt8) : ((⟨a.toArray⟩ : ByteArray) ++ (⟨b.toArray⟩ : ByteArray)) = ⟨(a ++ b).toArray⟩ := by
  apply ByteArray.ext
  simp
end Go.Proofs.Ytgiojkhmkeocfaa

/- The reference's text of a number, walked: the decimal digits, with a sign ahead of a negative one. -/
namespace Go.Proofs.Ytgiojkhmkeocfaa
open Go.RowKit

theorem tx_conv {P : Program} (src dst e : TypeId) (hs : P.underlying src = some (.slice e)) (he : P.underlying e = some (.int .u8)) (hd : P.underlying dst = some .string) (w : World) (x : Int) (h0 : 0 ≤ x) (h1 : x < 256) :
    (convert src dst (.slice (some ⟨w.heap.size, 0, none⟩) 1 1)).run P (w.alloc (.cells #[.int .u8 x] e)) = .ok (.string ⟨#[UInt8.ofNat x.toNat]⟩) (w.alloc (.cells #[.int .u8 x] e)) := by
  have hx : ((UInt8.ofNat x.toNat).toNat : Int) = x := by simp only [UInt8.toNat_ofNat']; omega
  refine run_convert_bytes_back (w.alloc (.cells #[.int .u8 x] e)) src dst e ⟨w.heap.size, 0, none⟩ 1 [UInt8.ofNat x.toNat] hs he hd ?_
  intro j hj
  have ej : j = 0 := by simpa using hj
  subst ej
  have := heap_alloc_new w (.cells #[.int .u8 x] e)
  show (w.alloc (.cells #[.int .u8 x] e)).cell? ⟨w.heap.size, 0 + 0, none⟩ = some (.int .u8 ((UInt8.ofNat x.toNat).toNat : Int))
  rw [hx]
  unfold World.cell?
  dsimp only
  rw [this]
  rfl
/-- the last digit of a number -/
def txc (m : Nat) : UInt8 := UInt8.ofNat (48 + m % 10)
/-- the digits ahead of what is written -/
def txp (m : Nat) : List UInt8 := if m = 0 then [] else Lib.decDigits m
theorem txp_step (m : Nat) (h : 0 < m) : txp m = txp (m / 10) ++ [txc m] := by
  unfold txp
  rw [if_neg (by omega), Lib.decDigits]
  by_cases h10 : m < 10
  · rw [dif_pos h10, if_pos (by omega)]
    have : m % 10 = m := by omega
    simp [txc, this]
  · rw [dif_neg h10, if_neg (by omega)]; rfl
theorem dec_txp (m : Nat) : Lib.decDigits m = txp (m / 10) ++ [txc m] := by
  by_cases h : m = 0
  · subst h; rw [Lib.decDigits]; simp [txp, txc]
  · have := txp_step m (by omega)
    rw [← this]; simp [txp, h]
theorem dec_short : ∀ (n m : Nat), m < 10 ^ (n + 1) → (Lib.decDigits m).length ≤ n + 1
  | 0, m, h => by rw [Lib.decDigits, dif_pos (by simpa using h)]; simp
  | n + 1, m, h => by
    rw [Lib.decDigits]
    split
    · simp
    · have h2 : m / 10 < 10 ^ (n + 1) := by
        rw [Nat.div_lt_iff_lt_mul (by omega), ← Nat.pow_succ]; exact h
      have := dec_short n (m / 10) h2
      simp; omega
theorem itoa_short (n : Int) (h0 : -9223372036854775808 ≤ n) (h1 : n ≤ 9223372036854775807) : (Lib.itoa n).length ≤ 21 := by
  have hal : (Lib.decDigits n.natAbs).length ≤ 20 := dec_short 19 n.natAbs (by omega)
  unfold Lib.itoa
  split
  · simp only [List.length_cons]
    omega
  · have e : n.toNat = n.natAbs := by omega
    rw [e]
    omega
theorem tx_wrap (n : Int) (h : n < 0) (h0 : -9223372036854775808 ≤ n) : IntKind.u64.wrap (-IntKind.u64.wrap n) = (n.natAbs : Int) := by
  simp [IntKind.wrap, IntKind.bits, IntKind.signed]
  omega
end Go.Proofs.Ytgiojkhmkeocfaa

/- The reference's Bare, walked: a line without its line feed. -/
namespace Go.Proofs.Ytgiojkhmkeocfaa
open Go.RowKit
attribute [local go_sem] ByteArray.extract_mk

theorem no_at (l : List UInt8) (k : Nat) (h : k < (⟨l.toArray⟩ : ByteArray).size) : (⟨l.toArray⟩ : ByteArray)[k]'h = l[k]'(h) := rfl
attribute [local go_sem] no_at
/-- a line without its line feed -/
def bareT (s : List UInt8) : List UInt8 := if fdB s = true then s.dropLast else s
theorem bareT_yes {l : List UInt8} (h0 : 0 < l.length) (h : l[l.length - 1] = 10) : bareT l = l.take (l.length - 1) ∧ fdB l = true := by
  have hf : fdB l = true := by unfold fdB; rw [List.getLast?_eq_getElem?, List.getElem?_eq_getElem (by omega), h]; rfl
  exact ⟨by rw [bareT, hf, List.dropLast_eq_take]; rfl, hf⟩
theorem bareT_no {l : List UInt8} (h0 : 0 < l.length) (h : l[l.length - 1] ≠ 10) : bareT l = l ∧ fdB l = false := by
  have hf : fdB l = false := by unfold fdB; rw [List.getLast?_eq_getElem?, List.getElem?_eq_getElem (by omega)]; simpa using h
  exact ⟨by rw [bareT, hf]; rfl, hf⟩
end Go.Proofs.Ytgiojkhmkeocfaa

/- The reference's small functions of the normal form's writing, walked: a range of lines, a line behind a sign. -/
namespace Go.Proofs.Ytgiojkhmkeocfaa
open Go.RowKit
attribute [local go_sem] ByteArray.extract_mk no_at

end Go.Proofs.Ytgiojkhmkeocfaa

/- The reference's change of the normal form, walked. -/
namespace Go.Proofs.Ytgiojkhmkeocfaa
open Go.RowKit

/-- two texts can be joined -/
def Fits (x y : List UInt8) : Prop := x.length + y.length ≤ 4611686018427387904
theorem add_fits {x y : List UInt8} (h : Fits x y) (P : Program) (u : World) : (Op.stringOp .add ⟨x.toArray⟩ ⟨y.toArray⟩).run P u = .ok (.string ⟨(x ++ y).toArray⟩) u := by
  unfold Fits at h
  have e : ¬ (((⟨x.toArray⟩ : ByteArray).size + (⟨y.toArray⟩ : ByteArray).size : Nat) : Int) > IntKind.i64.max := by
    have h1 : (⟨x.toArray⟩ : ByteArray).size = x.length := rfl
    have h2 : (⟨y.toArray⟩ : ByteArray).size = y.length := rfl
    have h3 : IntKind.i64.max = 9223372036854775807 := rfl
    rw [h1, h2, h3]
    omega
  unfold Op.stringOp
  dsimp only
  rw [if_neg e, ba_join]
  rfl
/-- a change in a box, and all below it as it was -/
structure Cs (c : Ch) (b : Nat) (W w : World) : Prop where
  c0 : w.cell? ⟨b, 0, none⟩ = some (.int .i64 c.A)
  c1 : w.cell? ⟨b, 1, none⟩ = some (.int .i64 c.AN)
  c2 : w.cell? ⟨b, 2, none⟩ = some (.int .i64 c.B)
  c3 : w.cell? ⟨b, 3, none⟩ = some (.int .i64 c.BN)
  lt : b < w.heap.size
  low : Below W.heap.size W w
theorem Cs.keep {c : Ch} {b : Nat} {W w w' : World} (h : Cs c b W w) (hb : Below w.heap.size w w') : Cs c b W w' := by
  have hk : ∀ o, w'.cell? ⟨b, o, none⟩ = w.cell? ⟨b, o, none⟩ := fun o => by
    unfold World.cell?
    dsimp only
    rw [hb.block b h.lt]
  exact ⟨(hk 0).trans h.c0, (hk 1).trans h.c1, (hk 2).trans h.c2, (hk 3).trans h.c3, Nat.lt_of_lt_of_le h.lt hb.size, h.low.trans (hb.mono h.low.size)⟩
theorem cs_drew (c : Ch) (b : Nat) (W w : World) : Cs c b W w.drew ↔ Cs c b W w := ⟨fun h => ⟨h.c0, h.c1, h.c2, h.c3, h.lt, (h.low.trans ⟨rfl, rfl, rfl, Nat.le_refl _, fun _ _ => rfl⟩ : Below W.heap.size W w)⟩, fun h => ⟨h.c0, h.c1, h.c2, h.c3, h.lt, h.low.drew⟩⟩
attribute [local simp] cs_drew
/-- a call that leaves all below as it was leaves that change, too -/
theorem cs_stay {P : Program} {f : FuncId} {args : Array Value} {v : Value} {w : World} (h : Calls P f args w fun e w' => e = .returned v ∧ Below w.heap.size w w') {c : Ch} {A AN B BN : Int} (hc : Hid (⟨A, AN, B, BN⟩ = c)) (b : Nat) (W : World) (hS : Cs c b W w) :
    Calls P f args w fun e w' => e = .returned v ∧ w'.cell? ⟨b, 0, none⟩ = some (.int .i64 A) ∧ w'.cell? ⟨b, 1, none⟩ = some (.int .i64 AN) ∧ w'.cell? ⟨b, 2, none⟩ = some (.int .i64 B) ∧ w'.cell? ⟨b, 3, none⟩ = some (.int .i64 BN) ∧ Cs c b W w' := by
  have hc2 := hc.out
  subst hc2
  refine h.mono ?_
  rintro e w' ⟨rfl, hb⟩
  have hS' := hS.keep hb
  exact ⟨rfl, hS'.c0, hS'.c1, hS'.c2, hS'.c3, hS'⟩
theorem rng_short (p n : Int) (h0 : 0 ≤ p) (h1 : p ≤ 4611686018427387904) (h2 : 0 ≤ n) (h3 : n ≤ 4611686018427387900) : (rngT p n).length ≤ 43 := by
  have l1 := itoa_short (p + 1) (by omega) (by omega)
  have l2 := itoa_short (p + n) (by omega) (by omega)
  unfold rngT
  split
  · omega
  · simp only [List.length_append, List.length_cons]
    omega
theorem flatM_app {α : Type} (f : α → List (List UInt8)) (x y : List α) : ((x ++ y).flatMap f).flatten = (x.flatMap f).flatten ++ (y.flatMap f).flatten := by simp
/-- one line more -/
theorem cut_more {a : List (List UInt8)} {p n k : Nat} (hk : k < n) (hn : p + n ≤ a.length) : cut a (p : Int) ((k + 1 : Nat) : Int) = cut a p (k : Nat) ++ [a[p + k]'(by omega)] := by
  have h := @cut_cat a (p : Int) (k : Nat) 1 (by omega) (by omega) (by omega)
  have e : cut a ((p : Int) + (k : Nat)) 1 = [a[p + k]'(by omega)] := by
    unfold cut
    have e1 : ((p : Int) + (k : Nat)).toNat = p + k := by omega
    rw [e1, List.drop_eq_getElem_cons (by omega)]
    rfl
  rw [← e, h]
  rfl
theorem cut_pre {a : List (List UInt8)} {p n k : Nat} (hk : k ≤ n) (f : List UInt8 → List (List UInt8)) : ∃ z, ((cut a (p : Int) (n : Nat)).flatMap f).flatten = ((cut a (p : Int) (k : Nat)).flatMap f).flatten ++ z := by
  have h := @cut_cat a (p : Int) (k : Nat) ((n - k : Nat) : Int) (by omega) (by omega) (by omega)
  have e : ((k : Nat) : Int) + ((n - k : Nat) : Int) = (n : Nat) := by omega
  rw [e] at h
  rw [← h, flatM_app]
  exact ⟨_, rfl⟩
end Go.Proofs.Ytgiojkhmkeocfaa

/- The reference's Print of the normal form, walked. -/
namespace Go.Proofs.Ytgiojkhmkeocfaa
open Go.RowKit

theorem prt_more {l : List Ch} {a b : List (List UInt8)} {k : Nat} (hk : k < l.length) : prtT (l.take (k + 1)) a b = prtT (l.take k) a b ++ (chgL a b l[k]).flatten := by
  unfold prtT prtL
  rw [List.take_succ_eq_append_getElem hk, List.flatMap_append, List.flatten_append, List.flatMap_singleton]
theorem prt_pre {l : List Ch} {a b : List (List UInt8)} (k : Nat) : (prtT (l.take k) a b).length ≤ (prtT l a b).length := by
  have e : prtT l a b = prtT (l.take k) a b ++ prtT (l.drop k) a b := by
    unfold prtT prtL
    rw [← List.flatten_append, ← List.flatMap_append, List.take_append_drop]
  rw [e, List.length_append]
  omega
/-- how long what is written is -/
theorem lnL_len (ah s : List UInt8) : (lnL ah s).flatten.length ≤ ah.length + s.length + 29 := by
  unfold lnL
  split <;> simp [markT] <;> omega
theorem lns_len (ah : List UInt8) (x : List (List UInt8)) : (x.flatMap (lnL ah)).flatten.length ≤ x.length * (ah.length + 29) + x.flatten.length := by
  induction x with
  | nil => simp
  | cons s x ih =>
    have h := lnL_len ah s
    simp only [List.flatMap_cons, List.flatten_append, List.length_append, List.length_cons, List.flatten_cons]
    have e : (x.length + 1) * (ah.length + 29) = x.length * (ah.length + 29) + (ah.length + 29) := Nat.succ_mul _ _
    omega
end Go.Proofs.Ytgiojkhmkeocfaa

/- How long the context form of a patch is; plain mathematics. -/
namespace Go.Proofs.Ytgiojkhmkeocfaa
open Ln

/-- the bytes of lines -/
def txS : List Mk → Nat
  | [] => 0
  | m :: l => m.tx.length + txS l
theorem cln_len (ah s : List UInt8) : (lnL ah s).flatten.length ≤ ah.length + s.length + 29 := by
  unfold lnL
  split
  · simp only [List.flatten_cons, List.flatten_nil, List.length_append, List.length_nil]
    omega
  · simp only [List.flatten_cons, List.flatten_nil, List.length_append, List.length_nil, List.length_cons, markT]
    omega
theorem sid_len (sg : Int) (l : List Mk) : ∀ r a, (sidL sg r a l).flatten.length ≤ 31 * l.length + txS l := by
  induction l with
  | nil => intro r a; exact Nat.le_refl _
  | cons m l ih =>
    intro r a
    simp only [sidL, txS, List.length_cons]
    split
    · have h1 := cln_len [32, 32] m.tx
      have h2 := ih false false
      simp only [List.flatten_append, List.length_append, List.length_cons, List.length_nil] at h1 ⊢
      omega
    · split
      · have h2 := ih (r || decide (m.sg = 45)) (a || decide (m.sg = 43))
        have h1 := cln_len (if ((r || anyS 45 (m :: l)) && (a || anyS 43 (m :: l))) = true then [33, 32] else [UInt8.ofNat sg.toNat, 32]) m.tx
        have h3 : (if ((r || anyS 45 (m :: l)) && (a || anyS 43 (m :: l))) = true then [33, 32] else [UInt8.ofNat sg.toNat, 32]).length = 2 := by split <;> rfl
        rw [h3] at h1
        simp only [List.flatten_append, List.length_append]
        omega
      · have h2 := ih (r || decide (m.sg = 45)) (a || decide (m.sg = 43))
        omega
theorem side_len (sg : Int) (l : List Mk) : (sideL sg l).flatten.length ≤ 31 * l.length + txS l := by
  unfold sideL
  split
  · exact sid_len sg l _ _
  · exact Nat.zero_le _
theorem span_len {p n : Int} (hp : 0 ≤ p) (hb : p ≤ 2147483647) (hn : n ≤ 2147483647) : (spanT p n).length ≤ 61 := by
  have r1 := itoa_short p (by omega) (by omega)
  unfold spanT
  split
  · omega
  · have r2 := itoa_short (p + n - 1) (by omega) (by omega)
    simp only [List.length_append, List.length_cons]
    omega
theorem chk_hi {h : Hk} (hr : rngB h = true) : h.AN ≤ 2147483647 ∧ h.BN ≤ 2147483647 := by
  simp [rngB, nat31] at hr
  omega
theorem hkl_len {h : Hk} (hc : chkH h = 0) : (hkL h).flatten.length ≤ 200 + 62 * h.ls.length + 2 * txS h.ls := by
  obtain ⟨c1, _⟩ := chk_out hc
  obtain ⟨r1, r2, r3, r4, r5, r6, _⟩ := rng_out c1
  obtain ⟨r7, r8⟩ := chk_hi c1
  have s1 := side_len 45 h.ls
  have s2 := side_len 43 h.ls
  have s3 := span_len r1 r2 r7
  have s4 := span_len r4 r5 r8
  simp only [hkL, rlT, starsT, List.flatten_cons, List.flatten_append, List.length_append, List.length_cons, List.length_nil]
  omega
/-- the lines and bytes of hunks -/
def hsS : List Hk → Nat
  | [] => 0
  | h :: l => 200 + 62 * h.ls.length + 2 * txS h.ls + hsS l
theorem hks_len {l : List Hk} (h : ∀ x ∈ l, chkH x = 0) : (l.flatMap hkL).flatten.length ≤ hsS l := by
  induction l with
  | nil => exact Nat.le_refl _
  | cons x l ih =>
    have h1 := ih fun y hy => h y (by simp [hy])
    have h2 := hkl_len (h x (by simp))
    simp only [List.flatMap_cons, List.flatten_append, List.length_append, hsS]
    omega
theorem name_len (n : List UInt8) : (nameT n).length ≤ 3 * n.length + 11 := by
  unfold nameT
  split
  · simp only [devN, List.length_cons, List.length_nil]
    omega
  · split
    · omega
    · have := Q.quote_length n
      omega
theorem ptl_len {p : Pth} (h : ∀ x ∈ p.hs, chkH x = 0) : (ptL p).flatten.length ≤ 32 + 3 * p.old.length + 3 * p.new.length + hsS p.hs := by
  unfold ptL
  split
  · exact Nat.zero_le _
  · have h1 := hks_len h
    have h2 := name_len p.old
    have h3 := name_len p.new
    simp only [List.flatten_cons, List.length_append, List.length_cons, List.length_nil]
    omega
theorem cerrs_out {l : List Hk} (h : errs l = 0) : ∀ x ∈ l, chkH x = 0 := by
  induction l with
  | nil => intro x hx; cases hx
  | cons y l ih =>
    simp only [errs] at h
    split at h
    · rename_i hq
      exact absurd h hq
    · rename_i hq
      intro x hx
      rcases List.mem_cons.1 hx with rfl | hx
      · omega
      · exact ih h x hx
theorem wrg_out {p : Pth} (h : wrgP p = 0) : p.old.length ≤ 64 ∧ p.new.length ≤ 64 ∧ p.hs.length ≤ 4096 ∧ ∀ x ∈ p.hs, chkH x = 0 := by
  unfold wrgP at h
  split at h
  · cases h
  · split at h
    · cases h
    · exact ⟨by omega, by omega, by omega, cerrs_out h⟩
theorem pt_len (p : Pth) : (ptT p).length ≤ 416 + hsS p.hs := by
  unfold ptT
  split
  · rename_i h
    obtain ⟨h1, h2, _, h4⟩ := wrg_out h
    have := ptl_len h4
    omega
  · exact Nat.zero_le _
end Go.Proofs.Ytgiojkhmkeocfaa

/- How large what is read of a text in the context form is; plain mathematics. -/
namespace Go.Proofs.Ytgiojkhmkeocfaa
open Ln

/-- the bytes of lines, and one a line -/
def szL : List (List UInt8) → Nat
  | [] => 0
  | s :: r => s.length + 1 + szL r
theorem szl_tail (l : List (List UInt8)) : szL l.tail ≤ szL l := by
  cases l with
  | nil => exact Nat.le_refl _
  | cons s r => simp only [List.tail_cons, szL]; omega
theorem szl_len (l : List (List UInt8)) : szL l = l.flatten.length + l.length := by
  induction l with
  | nil => rfl
  | cons s r ih =>
    simp only [szL, List.flatten_cons, List.length_append, List.length_cons, ih]
    omega
def szS (x : Sde) : Nat := szL (x.map (·.2))
theorem szs_cons (y : UInt8 × List UInt8) (x : Sde) : szS (y :: x) = y.2.length + 1 + szS x := rfl
theorem szs_kept (x : Sde) : szS (keptS x) ≤ szS x := by
  induction x with
  | nil => exact Nat.le_refl _
  | cons y x ih =>
    unfold keptS at ih ⊢
    rw [List.filter_cons]
    split
    · rw [szs_cons, szs_cons]
      omega
    · rw [szs_cons]
      omega
theorem rd_sz {sg : UInt8} (ls : List (List UInt8)) : ∀ {p p1 : Nat} {r : List (List UInt8)} {x : Sde}, rdS sg p ls = .ok (x, p1, r) → szS x + szL r ≤ szL ls := by
  induction ls with
  | nil =>
    intro p p1 r x h
    simp only [rdS] at h
    cases h
    exact Nat.le_refl _
  | cons s ls ih =>
    intro p p1 r x h
    simp only [rdS] at h
    split at h
    · split at h
      · split at h
        · cases h
          have := szl_tail ls
          rw [szs_cons]
          simp only [szL, szS, List.map_nil, List.length_dropLast, List.length_drop]
          omega
        · split at h
          · cases h
          · rename_i hr
            have := ih hr
            cases h
            rw [szs_cons]
            simp only [szL, List.length_drop]
            omega
      · cases h
    · cases h
      show 0 + _ ≤ _
      omega
theorem nxt_sz {p : Nat} {ls r : List (List UInt8)} {s : List UInt8} (h : nxt p ls = .ok (s, r)) : szL r + 1 ≤ szL ls := by
  cases ls with
  | nil => cases h
  | cons t l =>
    simp only [nxt] at h
    split at h
    · cases h
      simp only [szL]
      omega
    · cases h
theorem rng_sz {e : UInt8} {p : Nat} {ls r : List (List UInt8)} {q : Int × Int} (h : rngP e p ls = .ok (q, r)) : szL r + 1 ≤ szL ls := by
  unfold rngP at h
  split at h
  · cases h
  · rename_i hn
    split at h
    · cases h
    · split at h
      · cases h
      · cases h
        exact nxt_sz hn
theorem mk_sz {l : List Mk} (h : ∀ m ∈ l, okS m.sg = true) : l.length + txS l ≤ szL (pkL 43 l) + szL (pkL 45 l) := by
  induction l with
  | nil => exact Nat.le_refl _
  | cons m l ih =>
    have h1 := ih fun x hx => h x (by simp [hx])
    have h2 := h m (by simp)
    simp only [pkL, txS, List.length_cons]
    by_cases h3 : m.sg = 43
    · rw [if_neg (by simp [h3]), if_pos ⟨by rw [h3]; decide, h2⟩]
      simp only [szL]
      omega
    · rw [if_pos ⟨h3, h2⟩]
      split
      · simp only [szL]
        omega
      · simp only [szL]
        omega
theorem fin_sz {a0 a1 a2 : Nat} {po no pw nw : Int} {o w : Sde} {h : Hk} (hf : finH a0 a1 a2 po no pw nw o w = .ok h) : h.ls.length + txS h.ls ≤ 2 * (szS o + szS w) := by
  unfold finH at hf
  split at hf
  · cases hf
  split at hf
  · cases hf
  split at hf
  · cases hf
  split at hf
  · cases hf
  split at hf
  · cases hf
  split at hf
  · cases hf
  · rename_i l hj
    cases hf
    obtain ⟨_, b, c, d, _⟩ := jn_ok _ hj
    have := mk_sz b
    rw [c, d] at this
    have e1 : szL ((oldF o w).map (·.2)) ≤ szS o + szS w := by
      show szS (oldF o w) ≤ _
      unfold oldF
      split
      · have := szs_kept w
        omega
      · omega
    have e2 : szL ((newF o w).map (·.2)) ≤ szS o + szS w := by
      show szS (newF o w) ≤ _
      unfold newF
      split
      · have := szs_kept o
        omega
      · omega
    dsimp only
    omega
theorem cxh_sz {k p p1 : Nat} {ls r : List (List UInt8)} {h : Hk} (hh : cxH k p ls = .ok (h, p1, r)) : h.ls.length + txS h.ls + 2 * szL r + 6 ≤ 2 * szL ls := by
  unfold cxH at hh
  split at hh
  · cases hh
  · rename_i s r0 hn
    have a1 := nxt_sz hn
    split at hh
    · split at hh
      · cases hh
      · split at hh
        · cases hh
        · rename_i po no r1 h1
          have b1 := rng_sz h1
          split at hh
          · cases hh
          · rename_i o p2 r2 h2
            have c1 := rd_sz _ h2
            split at hh
            · cases hh
            · rename_i pw nw r3 h3
              have d1 := rng_sz h3
              split at hh
              · cases hh
              · rename_i w p4 r4 h4
                have e1 := rd_sz _ h4
                split at hh
                · cases hh
                · rename_i h5 hf
                  cases hh
                  have := fin_sz hf
                  omega
    · cases hh
theorem cxhs_sz (f : Nat) : ∀ {k p p1 : Nat} {ls r : List (List UInt8)} {hs : List Hk}, cxHs f k p ls = .ok (hs, p1, r) → hsS hs + 208 * szL r ≤ 208 * szL ls := by
  induction f with
  | zero => intro k p p1 ls r hs h; cases h
  | succ f ih =>
    intro k p p1 ls r hs h
    simp only [cxHs] at h
    split at h
    · cases h
    · rename_i h0 q1 r1 h1
      have a := cxh_sz h1
      split at h
      · split at h
        · cases h
        · rename_i l q2 r2 h2
          have b := ih h2
          cases h
          simp only [hsS]
          omega
      · cases h
        simp only [hsS]
        omega
/-- the size of patches -/
def ptM : List Pth → Nat
  | [] => 0
  | p :: L => 416 + hsS p.hs + ptM L
theorem nam_sz {ah n : List UInt8} {p : Nat} {ls r : List (List UInt8)} (h : namP ah p ls = .ok (n, r)) : szL r + 1 ≤ szL ls := by
  unfold namP at h
  split at h
  · cases h
  · rename_i s r0 hn
    have := nxt_sz hn
    split at h
    · split at h
      · cases h
      · cases h
        exact this
    · cases h
theorem cxps_sz (f : Nat) : ∀ {k p : Nat} {ls : List (List UInt8)} {L : List Pth}, cxPs f k p ls = .ok L → ptM L ≤ 208 * szL ls := by
  induction f with
  | zero =>
    intro k p ls L h
    simp only [cxPs] at h
    cases h
    exact Nat.zero_le _
  | succ f ih =>
    intro k p ls L h
    simp only [cxPs] at h
    split at h
    · cases h
      exact Nat.zero_le _
    · split at h
      · cases h
      · rename_i n1 r1 h1
        have a1 := nam_sz h1
        split at h
        · cases h
        · split at h
          · cases h
          · rename_i n2 r2 h2
            have b1 := nam_sz h2
            split at h
            · cases h
            · rename_i hs p3 r3 h3
              have c1 := cxhs_sz _ h3
              split at h
              · cases h
              · rename_i l h4
                have d1 := ih h4
                cases h
                simp only [ptM]
                omega
theorem cx_size {t : List UInt8} {L : List Pth} (h : cxT t = .ok L) : ptM L ≤ 436207616 := by
  unfold cxT at h
  split at h
  · cases h
  · rename_i hl
    have := cxps_sz _ h
    rw [szl_len, split_join] at this
    have h2 := split_len t
    omega
theorem pts_len (L : List Pth) : (L.flatMap ptT).length ≤ ptM L := by
  induction L with
  | nil => exact Nat.le_refl _
  | cons p L ih =>
    rw [List.flatMap_cons, List.length_append, ptM]
    have := pt_len p
    omega
theorem ptM_mem {L : List Pth} {p : Pth} (h : p ∈ L) : 416 + hsS p.hs ≤ ptM L := by
  induction L with
  | nil => cases h
  | cons q L ih =>
    simp only [ptM]
    rcases List.mem_cons.1 h with rfl | h
    · omega
    · have := ih h
      omega
theorem hsS_mem {l : List Hk} {x : Hk} (h : x ∈ l) : x.ls.length + txS x.ls ≤ hsS l := by
  induction l with
  | nil => cases h
  | cons q l ih =>
    simp only [hsS]
    rcases List.mem_cons.1 h with rfl | h
    · omega
    · have := ih h
      omega
theorem hsS_len (l : List Hk) : l.length ≤ hsS l := by
  induction l with
  | nil => exact Nat.le_refl _
  | cons q l ih =>
    simp only [hsS, List.length_cons]
    omega
theorem txS_mem {l : List Mk} {m : Mk} (h : m ∈ l) : m.tx.length ≤ txS l := by
  induction l with
  | nil => cases h
  | cons q l ih =>
    simp only [txS]
    rcases List.mem_cons.1 h with rfl | h
    · omega
    · have := ih h
      omega
theorem hok_size {p : List (Hk × Value)} (h : hsS (p.map (·.1)) ≤ 436207616) : HOk p := by
  refine ⟨?_, fun x hx => ?_⟩
  · have := hsS_len (p.map (·.1))
    rw [List.length_map] at this
    omega
  · have := hsS_mem (List.mem_map_of_mem (f := (·.1)) hx)
    refine ⟨by omega, fun m hm => ?_⟩
    have := txS_mem hm
    omega
end Go.Proofs.Ytgiojkhmkeocfaa

/- How long a text in the unified form is, and how large what is read of one is; plain mathematics. -/
namespace Go.Proofs.Ytgiojkhmkeocfaa
open Ln

theorem uc_len {p n : Int} (hp : 0 ≤ p) (hb : p ≤ 2147483647) (hn : 0 ≤ n) (hm : n ≤ 2147483647) : (ucT p n).length ≤ 61 := by
  have r1 := itoa_short p (by omega) (by omega)
  have r2 := itoa_short n (by omega) (by omega)
  unfold ucT
  split
  · omega
  · simp only [List.length_append, List.length_cons]
    omega
theorem um_len (l : List Mk) : (l.flatMap umL).flatten.length ≤ 31 * l.length + txS l := by
  induction l with
  | nil => exact Nat.le_refl _
  | cons m l ih =>
    have h1 := cln_len [UInt8.ofNat m.sg.toNat] m.tx
    simp only [List.flatMap_cons, List.flatten_append, List.length_append, List.length_cons, List.length_nil, txS, umL] at h1 ih ⊢
    omega
theorem uhl_len {h : Hk} (hc : chkH h = 0) : (uhL h).flatten.length ≤ 200 + 62 * h.ls.length + 2 * txS h.ls := by
  obtain ⟨c1, _⟩ := chk_out hc
  obtain ⟨r1, r2, r3, r4, r5, r6, _⟩ := rng_out c1
  obtain ⟨r7, r8⟩ := rng_hi c1
  have s1 := um_len h.ls
  have s3 := uc_len r1 r2 r3 r7
  have s4 := uc_len r4 r5 r6 r8
  simp only [uhL, uhT, List.flatten_cons, List.length_append, List.length_cons, List.length_nil]
  omega
theorem uhs_len {l : List Hk} (h : ∀ x ∈ l, chkH x = 0) : (l.flatMap uhL).flatten.length ≤ hsS l := by
  induction l with
  | nil => exact Nat.le_refl _
  | cons x l ih =>
    have h1 := ih fun y hy => h y (by simp [hy])
    have h2 := uhl_len (h x (by simp))
    simp only [List.flatMap_cons, List.flatten_append, List.length_append, hsS]
    omega
theorem upl_len {p : Pth} (h : ∀ x ∈ p.hs, chkH x = 0) : (upL p).flatten.length ≤ 32 + 3 * p.old.length + 3 * p.new.length + hsS p.hs := by
  unfold upL
  split
  · exact Nat.zero_le _
  · have h1 := uhs_len h
    have h2 := name_len p.old
    have h3 := name_len p.new
    simp only [List.flatten_cons, List.length_append, List.length_cons, List.length_nil]
    omega
theorem up_len (p : Pth) : (upT p).length ≤ 416 + hsS p.hs := by
  unfold upT
  split
  · rename_i h
    obtain ⟨h1, h2, _, h4⟩ := wrg_out h
    have := upl_len h4
    omega
  · exact Nat.zero_le _
theorem ups_len (L : List Pth) : (L.flatMap upT).length ≤ ptM L := by
  induction L with
  | nil => exact Nat.le_refl _
  | cons p L ih =>
    rw [List.flatMap_cons, List.length_append, ptM]
    have := up_len p
    omega
theorem nxt_szl {p : Nat} {ls r : List (List UInt8)} {s : List UInt8} (h : nxt p ls = .ok (s, r)) : s.length + 2 + szL r ≤ szL ls := by
  have := nxt_ok h
  subst this
  simp only [szL, List.length_append, List.length_cons, List.length_nil]
  omega
theorem uln_sz {a b p p1 : Nat} {ls r : List (List UInt8)} {m : Mk} (h : ulnP a b p ls = .ok (m, p1, r)) : m.tx.length + 1 + szL r ≤ szL ls := by
  unfold ulnP at h
  split at h
  · cases h
  · cases h
  · rename_i c t r0 hn
    have := nxt_szl hn
    have ht := szl_tail r0
    simp only [List.length_cons] at this
    split at h
    · split at h
      · cases h
        dsimp only
        omega
      · cases h
        simp only [List.length_append, List.length_cons, List.length_nil]
        omega
    · cases h
theorem urd_sz (n : Nat) : ∀ {a b p p1 : Nat} {ls r : List (List UInt8)} {l : List Mk}, urdP n a b p ls = .ok (l, p1, r) → l.length + txS l + szL r ≤ szL ls := by
  induction n with
  | zero =>
    intro a b p p1 ls r l h
    simp only [urdP] at h
    cases h
    simp only [txS, List.length_nil]
    omega
  | succ n ih =>
    intro a b p p1 ls r l h
    simp only [urdP] at h
    split at h
    · cases h
      simp only [txS, List.length_nil]
      omega
    · split at h
      · cases h
      · rename_i h1
        have a1 := uln_sz h1
        split at h
        · cases h
        · rename_i h2
          have b1 := ih h2
          cases h
          simp only [txS, List.length_cons]
          omega
theorem uhk_sz {k p p1 : Nat} {ls r : List (List UInt8)} {h : Hk} (hh : uhkP k p ls = .ok (h, p1, r)) : h.ls.length + txS h.ls + szL r + 1 ≤ szL ls := by
  unfold uhkP at hh
  split at hh
  · cases hh
  · rename_i s r0 hn
    have a1 := nxt_sz hn
    split at hh
    · cases hh
    · split at hh
      · cases hh
      · split at hh
        · cases hh
        · split at hh
          · cases hh
          · rename_i h1
            have b1 := urd_sz _ h1
            split at hh
            · cases hh
            · cases hh
              dsimp only
              omega
theorem uhs_sz {x : List UInt8} (f : Nat) : ∀ {k p p1 : Nat} {ls r : List (List UInt8)} {hs : List Hk}, uhsP x f k p ls = .ok (hs, p1, r) → hsS hs + 208 * szL r ≤ 208 * szL ls := by
  induction f with
  | zero => intro k p p1 ls r hs h; cases h
  | succ f ih =>
    intro k p p1 ls r hs h
    simp only [uhsP] at h
    split at h
    · cases h
    · rename_i h0 q1 r1 h1
      have a := uhk_sz h1
      split at h
      · split at h
        · cases h
        · rename_i l q2 r2 h2
          have b := ih h2
          cases h
          simp only [hsS]
          omega
      · cases h
        simp only [hsS]
        omega
theorem upsr_sz {x : List UInt8} (f : Nat) : ∀ {k p : Nat} {ls : List (List UInt8)} {L : List Pth}, upsP x f k p ls = .ok L → ptM L ≤ 208 * szL ls := by
  induction f with
  | zero =>
    intro k p ls L h
    simp only [upsP] at h
    cases h
    exact Nat.zero_le _
  | succ f ih =>
    intro k p ls L h
    simp only [upsP] at h
    split at h
    · cases h
      exact Nat.zero_le _
    · split at h
      · cases h
      · rename_i n1 r1 h1
        have a1 := nam_sz h1
        split at h
        · cases h
        · split at h
          · cases h
          · rename_i n2 r2 h2
            have b1 := nam_sz h2
            split at h
            · cases h
            · rename_i hs p3 r3 h3
              have c1 := uhs_sz _ h3
              split at h
              · cases h
              · rename_i l h4
                have d1 := ih h4
                cases h
                simp only [ptM]
                omega
theorem un_size {x t : List UInt8} {L : List Pth} (h : unT x t = .ok L) : ptM L ≤ 436207616 := by
  unfold unT at h
  split at h
  · cases h
  · rename_i hl
    have := upsr_sz _ h
    rw [szl_len, split_join] at this
    have h2 := split_len t
    omega
end Go.Proofs.Ytgiojkhmkeocfaa

/- The append of a text onto an owned row of bytes, with the place of the new row told; what a writer leaves as it was. Of no program. -/
namespace Go.Proofs.Ytgiojkhmkeocfaa
open Go.RowKit Go.Proofs.Ytgiojkhmkeocfaa Go.Lib

section
variable {P : Program} (w : World)
theorem run_append_strX (base : Nat) (t u ty e : TypeId) (i : TypeInfo) (ht : P.underlying t = some (.slice e)) (hu : P.underlying u = some .string) (hi : P.info? e = some i) (hz : i.zero = some (.int .u8 0))
    (hsize : i.size = 1) (hby : i.bytes = 1)
    (v : Value) (n : Nat) (xs : List Value) (hown : w.ownsRowF base e 1 v n xs) (s : ByteArray)
    (h63 : n + s.size ≤ maxLen) (hbytes : n + s.size ≤ 140737488355328) (hbase : base ≤ w.heap.size) :
    ∃ v' w', (Builtin.append_ #[t, u] ty #[v, .string s]).run P w = .ok v' w' ∧ w'.ownsRowF base e 1 v' (n + s.size) (xs ++ strCells s) ∧ w.grownBy w' v.ownBlock ∧
      (v'.ownBlock = v.ownBlock ∨ ∃ g, v'.ownBlock = some g ∧ w.heap.size ≤ g) := by
  rcases hown.2 with ⟨rfl, rfl⟩ | ⟨g, cap, cur, fz, rfl, hbg, hg, hfz, hnc, hcm, hcs, htake⟩
  · obtain ⟨v', w', r1, r2, r3, r4⟩ := run_append_own_string (P := P) w w.heap.size t u ty e i ht hu hi hz hsize hby (.slice none 0 0) 0 xs ⟨hown.1, .inl ⟨rfl, rfl⟩⟩ s h63 hbytes (Nat.le_refl _)
    have r5 := World.ownsRowF_of r2
    refine ⟨v', w', r1, ⟨r5.1, ?_⟩, r3, ?_⟩
    · rcases r5.2 with h | ⟨g, cap, cur, fz, q1, q2, q3⟩
      · exact .inl h
      · exact .inr ⟨g, cap, cur, fz, q1, by omega, q3⟩
    · rcases r5.2 with ⟨h, _⟩ | ⟨g, cap, cur, fz, q1, q2, q3⟩
      · exact .inl (by rw [h])
      · exact .inr ⟨g, by rw [q1]; rfl, q2⟩
  · have hsmall : n + s.size ≤ 9223372036854775807 := by simp only [maxLen] at h63; omega
    have hxl : xs.length = n := by simpa using hown.1
    have hlen : (xs ++ strCells s).length = (n + s.size) * 1 := by rw [List.length_append, hxl, strCells_length, Nat.mul_one]
    by_cases hroom : n + s.size ≤ cap
    · have hcs' : cur.size = cap := by simpa using hcs
      have hr := run_append_room_stringF (P := P) w t u ty e i ht hu hi hsize g n cap cur fz hg (by simpa using hfz) s hroom (by omega)
      refine ⟨_, _, hr, ⟨hlen, .inr ⟨g, cap, _, fz, rfl, hbg, setRow_heap w g cur _ e _ hg, by omega, hroom, hcm, ?_, ?_⟩⟩, ⟨rfl, rfl, rfl, by simp, fun k _ hk => setRow_other w g k _ (fun e => hk (by simp [Value.ownBlock, e]))⟩, .inl rfl⟩
      · simp only [List.size_toArray, List.length_append, List.length_take, List.length_drop, Array.length_toList, strCells_length]
        omega
      · have ht' : cur.toList.take n = xs := by simpa using htake
        rw [ht', ← hlen]
        exact List.take_left
    · have holds : ∀ j u, xs[j]? = some u → w.cell? ((⟨g, 0, none⟩ : Addr).add j) = some u := hown.cells (g := g) rfl
      have hr := run_append_grow_string (P := P) w t u ty e i (.int .u8 0) ht hu hi hz ⟨g, 0, none⟩ n cap xs (by rw [hsize]; simpa using hxl) holds s (by omega) (by omega) (by rw [hby]; exact growslice_fits (by omega) (by omega))
      have hge := grownCap_ge w (n + s.size) cap e
      have hcm2 : grownCap w (n + s.size) cap e ≤ maxLen := grownCap_le_maxLen w (n + s.size) cap e h63
      refine ⟨_, _, hr, ⟨hlen, .inr ⟨w.heap.size, _, _, (0, 0), rfl, hbase, _root_.Go.heap_alloc_new w.drew _, Nat.zero_le _, hge, hcm2, ?_, ?_⟩⟩, ⟨rfl, rfl, rfl, by simp, fun k hk _ => Below.heap_alloc w.drew _ k hk⟩, .inr ⟨_, rfl, Nat.le_refl _⟩⟩
      · have hz1 : (Value.int IntKind.u8 0).cells.size = 1 := rfl
        simp only [Array.size_append, List.size_toArray, size_zeroCells, hz1, hxl, strCells_length]
        omega
      · simp only [Array.toList_append, List.append_assoc]
        rw [← List.append_assoc, ← hlen]
        exact List.take_left

theorem wpList_append_strX {ops : Array Oper} {rest : List Oper} {o : Oper} {a : Act} {Q : Exit → Act → World → Prop} (hgd : o.guard = none) (sl x : Operand) (t u : TypeId)
    (ho : o.op = .call { callee := .builtin .append, args := #[sl, x], argTypes := #[t, u] })
    (base : Nat) (e : TypeId) (i : TypeInfo) (ht : P.underlying t = some (.slice e)) (hu : P.underlying u = some .string) (hi : P.info? e = some i) (hz : i.zero = some (.int .u8 0))
    (hsize : i.size = 1) (hby : i.bytes = 1)
    (v : Value) (n : Nat) (xs : List Value) (hs : a.eval sl = v) (hown : w.ownsRowF base e 1 v n xs) (s : ByteArray) (hx : a.eval x = .string s)
    (h63 : n + s.size ≤ maxLen) (hbytes : n + s.size ≤ 140737488355328) (hbase : base ≤ w.heap.size)
    (h : ∀ v' w', w'.ownsRowF base e 1 v' (n + s.size) (xs ++ strCells s) → w.grownBy w' v.ownBlock → (v'.ownBlock = v.ownBlock ∨ ∃ g, v'.ownBlock = some g ∧ w.heap.size ≤ g) → wpList P ops Q rest (a.put o.dst v') w') : wpList P ops Q (o :: rest) a w := by
  refine wpList_plain hgd fun K hK => ?_
  obtain ⟨v', w', hr, h2, h3, h4⟩ := run_append_strX (P := P) w base t u o.type e i ht hu hi hz hsize hby v n xs hown s h63 hbytes hbase
  unfold Oper.wp execOp
  simp only [ho, resolve, invoke, builtin, Sem.run_bind, Sem.run_pure, Result.andThen_ok, List.map_toArray, List.map_cons, List.map_nil, hs, hx, hr]
  exact hK _ _ (h v' w' h2 h3 h4)
end
/-- a writer of the builder in block b, whose buffer was v and is v': all else is as it was -/
structure Wr (B b : Nat) (v v' : Value) (w w' : World) : Prop where
  aside : Go.Proofs.Ytgiojkhmkeocfaa.Aside b v w w'
  fresh : Fresh v v' w
  below : Below B w w'
theorem Wr.refl (B b : Nat) (v : Value) (w : World) : Wr B b v v w w := ⟨fun _ _ _ _ => rfl, .inl rfl, Below.refl B w⟩
theorem Wr.trans {B b : Nat} {v v1 v2 : Value} {w w1 w2 : World} (h : Wr B b v v1 w w1) (h' : Wr B b v1 v2 w1 w2) : Wr B b v v2 w w2 := by
  have hsz := h.below.size
  have hn : ∀ k, k < w.heap.size → v.ownBlock ≠ some k → v1.ownBlock ≠ some k := by
    intro k hk hv
    rcases h.fresh with q | ⟨g, q, hg⟩
    · rw [q]; exact hv
    · rw [q]
      intro e
      have := Option.some.inj e
      omega
  refine ⟨fun k hk hb hv => (h'.aside k (by omega) hb (hn k hk hv)).trans (h.aside k hk hb hv), ?_, h.below.trans h'.below⟩
  rcases h'.fresh with q | ⟨g, q, hg⟩
  · rcases h.fresh with q2 | ⟨g, q2, hg⟩
    · exact .inl (q.trans q2)
    · exact .inr ⟨g, q.trans q2, hg⟩
  · exact .inr ⟨g, q, by omega⟩
/-- what does not touch the builder, in the middle -/
theorem Wr.low {B b : Nat} {v : Value} {w w1 : World} (h : Below w.heap.size w w1) (hB : B ≤ w.heap.size) : Wr B b v v w w1 := ⟨fun k hk _ _ => h.block k hk, .inl rfl, h.mono hB⟩
theorem Wr.size {B b : Nat} {v v' : Value} {w w' : World} (h : Wr B b v v' w w') : w.heap.size ≤ w'.heap.size := h.below.size
/-- a block that is neither the builder's nor its buffer's -/
def Off (k : Nat) (b : Nat) (v : Value) : Prop := k ≠ b ∧ v.ownBlock ≠ some k
theorem Wr.block {B b : Nat} {v v' : Value} {w w' : World} (h : Wr B b v v' w w') {k : Nat} {o : Obj} (hk : w.heap[k]? = some o) (ho : Off k b v) : w'.heap[k]? = some o ∧ Off k b v' := by
  have hlt : k < w.heap.size := (Array.getElem?_eq_some_iff.1 hk).1
  refine ⟨(h.aside k hlt ho.1 ho.2).trans hk, ho.1, ?_⟩
  rcases h.fresh with q | ⟨g, q, hg⟩
  · rw [q]; exact ho.2
  · rw [q]
    intro e
    have := Option.some.inj e
    omega
end Go.Proofs.Ytgiojkhmkeocfaa

/- The library's contract on a fresh strings.Builder's copy check at this program: the program bears the bodies that it speaks of. -/
namespace Go.Proofs
open Go.Shelf
def Try.lays240_ren : Go.Shelf.Ren := ⟨fun | 240 => 28 | 276 => 31 | n => n, fun | 0 => 0 | 4 => 4 | 9 => 9 | 20 => 20 | 70 => 31 | 72 => 34 | 37 => 32 | 164 => 48 | n => n, fun | n => n⟩
theorem Try.lays240 : Go.Proofs.Lays.n240 Try.prog Try.lays240_ren := {
  mixed := by kernel_rfl
  f240 := Try.func28.trans (congrArg some (by kernel_rfl))
  f276 := Try.func31.trans (congrArg some (by kernel_rfl))
  t0 := Try.underlying0
  a0 := Try.isAgg0
  z0 := Try.sizeOf0
  v0 := Try.zeroValue0
  t4 := Try.underlying4
  a4 := Try.isAgg4
  z4 := Try.sizeOf4
  v4 := Try.zeroValue4
  t9 := Try.underlying9
  a9 := Try.isAgg9
  z9 := Try.sizeOf9
  v9 := Try.zeroValue9
  t20 := Try.underlying20
  a20 := Try.isAgg20
  z20 := Try.sizeOf20
  v20 := Try.zeroValue20
  t70 := Try.underlying31
  a70 := Try.isAgg31
  z70 := Try.sizeOf31
  v70 := Try.zeroValue31
  t72 := Try.underlying34
  a72 := Try.isAgg34
  z72 := Try.sizeOf34
  v72 := Try.zeroValue34
  t164 := Try.underlying48
  a164 := Try.isAgg48
  z164 := Try.sizeOf48
  v164 := Try.zeroValue48 }
theorem Try.Builder_X72_240 : Builder.X72 Try.prog Try.lays240_ren := {
  sizeBuilder := by kernel_rfl
  liesBuilder := by kernel_rfl }
theorem Try.copyCheck_fresh (b : Nat) (w : World) (h0 : w.cell? ⟨b, 0, none⟩ = some (.pointer none)) (hsh : w.shape? b = some (34, 2)) (hfz : w.frozen? ⟨b, 0, none⟩ = false) :
    Calls Try.prog 28 #[.pointer (some ⟨b, 0, none⟩)] w fun e w' => e = .returned (.tuple #[]) ∧ w' = w.setCell ⟨b, 0, none⟩ (.pointer (some ⟨b, 0, none⟩)) := Any.Builder_copyCheck_fresh Try.lays240 Try.Builder_X72_240 b w h0 hsh hfz
theorem Try.copyCheck_used (b : Nat) (w : World) (h0 : w.cell? ⟨b, 0, none⟩ = some (.pointer (some ⟨b, 0, none⟩))) :
    Calls Try.prog 28 #[.pointer (some ⟨b, 0, none⟩)] w fun e w' => e = .returned (.tuple #[]) ∧ w' = w := Any.Builder_copyCheck_used Try.lays240 Try.Builder_X72_240 b w h0
end Go.Proofs

/- A strings.Builder that lies in a block of whatever type, alone or embedded: its copy check, and how bytes and texts are written into it, walked. -/
namespace Go.Proofs.Ytgiojkhmkeocfaa
open Go.RowKit Go.Proofs.Ytgiojkhmkeocfaa

theorem cwU8 : (Try.prog.info? 5).map (fun i => (i.zero, i.size, i.bytes)) = some (some (.int .u8 0), 1, 1) := by kernel_rfl
theorem cwBs : (Try.prog.info? 34).map (·.size) = some 2 := by kernel_rfl
/-- a builder lies at the head of a block of type T -/
def LaysB (T : TypeId) : Prop := liesAt Try.prog Try.prog.depth T (2 / Try.prog.cellsOf T) 0 34 1 = true ∧ T ≠ 5
theorem lays_b : LaysB 34 := ⟨by kernel_rfl, by decide⟩
set_option maxHeartbeats 1000000 in
set_option maxRecDepth 100000 in
theorem ccheck_fresh {T : TypeId} (hT : LaysB T) (b : Nat) (w : World) (h0 : w.cell? ⟨b, 0, none⟩ = some (.pointer none)) (hsh : w.shape? b = some (T, 2)) (hfz : w.frozen? ⟨b, 0, none⟩ = false) :
    Calls Try.prog 28 #[.pointer (some ⟨b, 0, none⟩)] w fun e w' => e = .returned (.tuple #[]) ∧ w' = w.setCell ⟨b, 0, none⟩ (.pointer (some ⟨b, 0, none⟩)) := by
  obtain ⟨j, hj, hjs⟩ := Option.map_eq_some_iff.1 cwBs
  go_enter Try.func28, Try.ntmps28
  go_wp2
  rw [Lib.run_to_unsafe w ⟨b, 0, none⟩ Try.underlying31 Try.underlying48 hj (by rw [hjs]; decide) hsh (Nat.zero_lt_succ 1)]
  simp only [Result.andThen]
  rw [Oper.upon_value]
  go_wp2
  rw [run_callFunc_extern Try.func31 (by kernel_rfl) (by kernel_rfl) (by kernel_rfl) (e := Extern.AbiNoEscape.same) (by kernel_rfl)]
  rw [Lib.run_noEscape]
  simp only [Result.andThen]
  rw [Oper.upon_value]
  go_wp2
  rw [Lib.run_from_unsafe w ⟨b, 0, none⟩ Try.underlying48 Try.underlying31 hj hsh hT.1]
  simp only [Result.andThen]
  rw [Oper.upon_value]
  go_wp2
  go_end0
  exact ⟨rfl, rfl⟩
theorem ccheck_any {T : TypeId} (hT : LaysB T) (B b : Nat) (v : Value) (bs : List Value) (w : World) (h : Bld T 5 B b v bs w) :
    Calls Try.prog 28 #[.pointer (some ⟨b, 0, none⟩)] w fun e w' => e = .returned (.tuple #[]) ∧ w'.heap[b]? = some (.cells #[.pointer (some ⟨b, 0, none⟩), v] T (0, 0)) ∧ Bld T 5 B b v bs w' ∧ Hid (∀ k, k ≠ b → w'.heap[k]? = w.heap[k]?) ∧ Below B w w' := by
  have h' := h
  obtain ⟨hB, ⟨p, hp, hbk⟩, hown, hne⟩ := h
  have hlt : b < w.heap.size := (Array.getElem?_eq_some_iff.1 hbk).1
  have c0 : w.cell? ⟨b, 0, none⟩ = some p := by rw [Lib.cell_of_heap hbk]; rfl
  have f0 : w.frozen? ⟨b, 0, none⟩ = false := Lib.frozen_of_heap hbk 0
  rcases hp with rfl | rfl
  · refine (ccheck_fresh hT b w c0 (by simp [World.shape?, hbk]) f0).mono ?_
    rintro e w' ⟨rfl, rfl⟩
    have hb' : (w.setCell ⟨b, 0, none⟩ (.pointer (some ⟨b, 0, none⟩))).heap[b]? = some (.cells #[.pointer (some ⟨b, 0, none⟩), v] T (0, 0)) := by
      simp only [World.setCell, Array.getElem?_modify, hbk]
      simp
    have ho : ∀ k, k ≠ b → (w.setCell ⟨b, 0, none⟩ (.pointer (some ⟨b, 0, none⟩))).heap[k]? = w.heap[k]? := fun k hk => Below.heap_setCell w _ _ k hk
    refine ⟨rfl, hb', ⟨hB, ⟨_, .inr rfl, hb'⟩, ?_, hne⟩, ho, (Below.refl B w).setCell (p := ⟨b, 0, none⟩) hB _⟩
    refine ⟨hown.1, ?_⟩
    rcases hown.2 with h | ⟨g, cap, cur, fz, q1, q2, q3, q4⟩
    · exact .inl h
    · exact .inr ⟨g, cap, cur, fz, q1, q2, (ho g (fun e => hne (by rw [q1, e]; rfl))).trans q3, q4⟩
  · refine (Try.copyCheck_used b w c0).mono ?_
    rintro e w' ⟨rfl, rfl⟩
    exact ⟨rfl, hbk, h', fun _ _ => rfl, Below.refl B _⟩
set_option maxHeartbeats 2000000 in
set_option maxRecDepth 100000 in
theorem cByte_f {T : TypeId} (hT : LaysB T) (B b : Nat) (v : Value) (bs : List Value) (c : Int) (w : World) (h : Bld T 5 B b v bs w) (hlen : bs.length + 1 ≤ 140737488355328) (hBw : B ≤ w.heap.size) :
    Calls Try.prog 21 #[.pointer (some ⟨b, 0, none⟩), .int .u8 c] w fun e w' => e = .returned .nilIface ∧ ∃ v', Bld T 5 B b v' (bs ++ [.int .u8 c]) w' ∧ Wr B b v v' w w' := by
  obtain ⟨i0, hi, hz0, hz1, hz2⟩ := info_parts cwU8
  go_enter Try.func21, Try.ntmps21
  go_wp2_with (go_at_call 28; refine (ccheck_any hT B b v bs _ h).mono ?_)
  rintro e w1 ⟨rfl, hbk, ⟨hB, _, hown, hne⟩, ho1, hb1⟩
  have c0 : w1.cell? ⟨b, 0, none⟩ = some (.pointer (some ⟨b, 0, none⟩)) := by rw [Lib.cell_of_heap hbk]; rfl
  have c1 : w1.cell? ⟨b, 1, none⟩ = some v := by rw [Lib.cell_of_heap hbk]; rfl
  have hlt : b < w1.heap.size := (Array.getElem?_eq_some_iff.1 hbk).1
  go_wp2_with (at_builtin; refine wpList_append_ownX _ rfl _ _ 32 rfl B 5 i0 (.int .u8 0) 1 1 Try.underlying32 hi hz0 hz1 hz2 rfl (by decide) _ _ _ rfl (hown.alloc _) ⟨w1.heap.size, 0, none⟩ 1 1 [.int .u8 c] rfl rfl ?c1 ?c2 ?c3 ?c4 ?c5 ?_)
  case c1 =>
    intro j u hj
    match j, hj with
    | 0, hj => simp at hj; subst hj; simp [Addr.add]
  case c2 => intro u hu; simp at hu; subst hu; rfl
  case c3 => unfold maxLen; omega
  case c4 => omega
  case c5 => have := hb1.size; simp; omega
  intro v' w2 hown' hgrow hfr
  have hb2 : w2.heap[b]? = some (.cells #[.pointer (some ⟨b, 0, none⟩), v] T (0, 0)) := by
    rw [hgrow.block b (by simp; omega) (fun e => hne e.symm), Lib.alloc_old w1 _ b hlt]
    exact hbk
  have d0 : w2.cell? ⟨b, 0, none⟩ = some (.pointer (some ⟨b, 0, none⟩)) := by rw [Lib.cell_of_heap hb2]; rfl
  have d1 : w2.cell? ⟨b, 1, none⟩ = some v := by rw [Lib.cell_of_heap hb2]; rfl
  have f1 : w2.frozen? ⟨b, 1, none⟩ = false := Lib.frozen_of_heap hb2 1
  obtain ⟨g, cap, rfl⟩ : ∃ g cap, v' = .slice (some ⟨g, 0, none⟩) (bs.length + 1) cap := by
    rcases hown'.2 with ⟨_, h0⟩ | ⟨g, cap, cur, fz, hv, _⟩
    · omega
    · exact ⟨g, cap, hv⟩
  go_wp2
  go_ret
  refine ⟨rfl, _, Bld.put hB (.inr rfl) hb2 (by simpa using hown') hT.2, ?_, ?_, ?_⟩
  · intro k hk hkb hkv
    rw [Below.heap_setCell w2 _ _ k hkb, hgrow.block k (by have := hb1.size; simp; omega) (fun e => hkv e.symm), Lib.alloc_old w1 _ k (by have := hb1.size; omega)]
    exact ho1.out k hkb
  · rcases hfr with h | ⟨g', h, h2⟩
    · exact .inl h
    · exact .inr ⟨g', h, by have := hb1.size; omega⟩
  · exact ((hb1.alloc (by have := hb1.size; omega) _).grown hgrow (by have := hb1.size; simp; omega) (fun k hk => (hown.lt k hk).1)).setCell (p := ⟨b, 1, none⟩) hB _
set_option maxHeartbeats 2000000 in
set_option maxRecDepth 100000 in
theorem cString_f {T : TypeId} (B b : Nat) (v : Value) (l : List UInt8) (h0 : l ≠ []) (w : World) (h : Bld T 5 B b v (Lib.byteCells l) w) :
    Calls Try.prog 22 #[.pointer (some ⟨b, 0, none⟩)] w fun e w' => e = .returned (.string ⟨l.toArray⟩) ∧ Below B w w' := by
  obtain ⟨hB, ⟨p, hp, hbk⟩, hown, hne⟩ := h
  have hl0 : l.length ≠ 0 := by simpa using h0
  rw [Lib.byteCells_length] at hown
  obtain ⟨g, cap, cur, fz, rfl, hbg, hg, hfz, hnc, hcm, hcs, htake⟩ : ∃ g cap cur fz, v = .slice (some ⟨g, 0, none⟩) l.length cap ∧ B ≤ g ∧ w.heap[g]? = some (.cells cur 5 fz) ∧ fz.2 ≤ l.length * 1 ∧ l.length ≤ cap ∧ cap ≤ maxLen ∧ cur.size = cap * 1 ∧ cur.toList.take (l.length * 1) = Lib.byteCells l := by
    rcases hown.2 with ⟨_, hz⟩ | ⟨g, cap, cur, fz, hv, r⟩
    · exact absurd hz hl0
    · exact ⟨g, cap, cur, fz, hv, r⟩
  have c1 : w.drew.cell? ⟨b, 1, none⟩ = some (.slice (some ⟨g, 0, none⟩) l.length cap) := by
    have : w.drew.heap[b]? = some (.cells #[p, .slice (some ⟨g, 0, none⟩) l.length cap] T (0, 0)) := hbk
    rw [Lib.cell_of_heap this]; rfl
  have hSD : (Builtin.unsafeSliceData_ #[32] 46 #[.slice (some ⟨g, 0, none⟩) l.length cap]).run Try.prog w.drew = .ok (.pointer (some ⟨g, 0, none⟩)) w.drew :=
    Lib.run_unsafeSliceData_row _ _ _ _ _ _ (by omega)
  have hUS : (Builtin.unsafeString_ #[46, 3] 9 #[.pointer (some ⟨g, 0, none⟩), .int .i64 l.length]).run Try.prog w.drew = .ok (.string ⟨l.toArray⟩) (w.drew.freeze ⟨g, 0, none⟩ l.length) := by
    refine Lib.run_unsafeString_row w.drew 46 3 9 5 Try.underlying46 (by kernel_rfl) g cur.size (by have hg' : w.drew.heap[g]? = some (.cells cur 5 fz) := hg; simp [World.shape?, hg']) l h0 (by omega) (by unfold maxLen at hcm; omega) ?_
    intro j x hx
    have := hown.cells (g := g) rfl j (.int .u8 x.toNat) (by simp [Lib.byteCells, hx])
    exact this
  have HF : Hid (Below B w (w.drew.freeze ⟨g, 0, none⟩ l.length)) := Lib.below_freeze (Below.drew (Below.refl B w)) (p := ⟨g, 0, none⟩) hbg _
  clear hfz htake hown hg
  have mixed : Try.prog.follows Departure.mixedOrders = true := by kernel_rfl
  go_enter Try.func22, Try.ntmps22
  go_wp2
  go_region_o
  all_goals (go_wp2; go_ret; exact ⟨rfl, HF.out⟩)
end Go.Proofs.Ytgiojkhmkeocfaa

/- Small functions of layer num and of the reference, and the writing of a byte into a builder, walked. -/
namespace Go.Proofs.Ytgiojkhmkeocfaa
open Q Go.RowKit Go.Proofs.Ytgiojkhmkeocfaa
attribute [local go_sem] ba_at hexl_at

set_option maxHeartbeats 400000 in
theorem isPlain_any (n : Int) (w : World) :
    Calls Try.prog 26 #[.int .u8 n] w fun e w' => e = .returned (.bool (plainI n)) ∧ w = w' := by
  go_enter Try.func26, Try.ntmps26
  go_wp2
  all_goals go_ret
  all_goals exact ⟨ret_bool (by rw [Bool.eq_iff_iff]; simp [plainI]; omega), rfl⟩

set_option maxHeartbeats 400000 in
theorem plain_any (n : Int) (w : World) :
    Calls Try.prog 23 #[.int .u8 n] w fun e w' => e = .returned (.bool (plainI n)) ∧ w = w' := by
  go_enter Try.func23, Try.ntmps23
  go_wp2
  all_goals go_ret
  all_goals exact ⟨ret_bool (by rw [Bool.eq_iff_iff]; simp [plainI]; omega), rfl⟩

theorem infoU8 : (Try.prog.info? 5).map (fun i => (i.zero, i.size, i.bytes)) = some (some (.int .u8 0), 1, 1) := by kernel_rfl
theorem copyCheck_any (B b : Nat) (v : Value) (bs : List Value) (w : World) (h : Bld 34 5 B b v bs w) :
    Calls Try.prog 28 #[.pointer (some ⟨b, 0, none⟩)] w fun e w' => e = .returned (.tuple #[]) ∧ w'.heap[b]? = some (.cells #[.pointer (some ⟨b, 0, none⟩), v] 34 (0, 0)) ∧ Bld 34 5 B b v bs w' ∧ Hid (∀ k, k ≠ b → w'.heap[k]? = w.heap[k]?) ∧ Below B w w' := by
  have h' := h
  obtain ⟨hB, ⟨p, hp, hbk⟩, hown, hne⟩ := h
  have hlt : b < w.heap.size := (Array.getElem?_eq_some_iff.1 hbk).1
  have c0 : w.cell? ⟨b, 0, none⟩ = some p := by rw [Lib.cell_of_heap hbk]; rfl
  have f0 : w.frozen? ⟨b, 0, none⟩ = false := Lib.frozen_of_heap hbk 0
  rcases hp with rfl | rfl
  · refine (Try.copyCheck_fresh b w c0 (by simp [World.shape?, hbk]) f0).mono ?_
    rintro e w' ⟨rfl, rfl⟩
    have hb' : (w.setCell ⟨b, 0, none⟩ (.pointer (some ⟨b, 0, none⟩))).heap[b]? = some (.cells #[.pointer (some ⟨b, 0, none⟩), v] 34 (0, 0)) := by
      simp only [World.setCell, Array.getElem?_modify, hbk]
      simp
    have ho : ∀ k, k ≠ b → (w.setCell ⟨b, 0, none⟩ (.pointer (some ⟨b, 0, none⟩))).heap[k]? = w.heap[k]? := fun k hk => Below.heap_setCell w _ _ k hk
    refine ⟨rfl, hb', ⟨hB, ⟨_, .inr rfl, hb'⟩, ?_, hne⟩, ho, (Below.refl B w).setCell (p := ⟨b, 0, none⟩) hB _⟩
    refine ⟨hown.1, ?_⟩
    rcases hown.2 with h | ⟨g, cap, cur, fz, q1, q2, q3, q4⟩
    · exact .inl h
    · exact .inr ⟨g, cap, cur, fz, q1, q2, (ho g (fun e => hne (by rw [q1, e]; rfl))).trans q3, q4⟩
  · refine (Try.copyCheck_used b w c0).mono ?_
    rintro e w' ⟨rfl, rfl⟩
    exact ⟨rfl, hbk, h', fun _ _ => rfl, Below.refl B _⟩

set_option maxHeartbeats 2000000 in
set_option maxRecDepth 100000 in
theorem WriteByte_any (B b : Nat) (v : Value) (bs : List Value) (c : Int) (w : World) (h : Bld 34 5 B b v bs w) (hlen : bs.length + 1 ≤ 140737488355328) (hBw : B ≤ w.heap.size) :
    Calls Try.prog 21 #[.pointer (some ⟨b, 0, none⟩), .int .u8 c] w fun e w' => e = .returned .nilIface ∧ ∃ v', Bld 34 5 B b v' (bs ++ [.int .u8 c]) w' ∧ Go.Proofs.Ytgiojkhmkeocfaa.Aside b v w w' ∧ Fresh v v' w ∧ Below B w w' := by
  obtain ⟨i0, hi, hz0, hz1, hz2⟩ := info_parts infoU8
  go_enter Try.func21, Try.ntmps21
  go_wp2_with (go_at_call 28; refine (copyCheck_any B b v bs _ h).mono ?_)
  rintro e w1 ⟨rfl, hbk, ⟨hB, _, hown, hne⟩, ho1, hb1⟩
  have c0 : w1.cell? ⟨b, 0, none⟩ = some (.pointer (some ⟨b, 0, none⟩)) := by rw [Lib.cell_of_heap hbk]; rfl
  have c1 : w1.cell? ⟨b, 1, none⟩ = some v := by rw [Lib.cell_of_heap hbk]; rfl
  have hlt : b < w1.heap.size := (Array.getElem?_eq_some_iff.1 hbk).1
  go_wp2_with (at_builtin; refine wpList_append_ownX _ rfl _ _ 32 rfl B 5 i0 (.int .u8 0) 1 1 Try.underlying32 hi hz0 hz1 hz2 rfl (by decide) _ _ _ rfl (hown.alloc _) ⟨w1.heap.size, 0, none⟩ 1 1 [.int .u8 c] rfl rfl ?c1 ?c2 ?c3 ?c4 ?c5 ?_)
  case c1 =>
    intro j u hj
    match j, hj with
    | 0, hj => simp at hj; subst hj; simp [Addr.add]
  case c2 => intro u hu; simp at hu; subst hu; rfl
  case c3 => unfold maxLen; omega
  case c4 => omega
  case c5 => have := hb1.size; simp; omega
  intro v' w2 hown' hgrow hfr
  have hb2 : w2.heap[b]? = some (.cells #[.pointer (some ⟨b, 0, none⟩), v] 34 (0, 0)) := by
    rw [hgrow.block b (by simp; omega) (fun e => hne e.symm), Lib.alloc_old w1 _ b hlt]
    exact hbk
  have d0 : w2.cell? ⟨b, 0, none⟩ = some (.pointer (some ⟨b, 0, none⟩)) := by rw [Lib.cell_of_heap hb2]; rfl
  have d1 : w2.cell? ⟨b, 1, none⟩ = some v := by rw [Lib.cell_of_heap hb2]; rfl
  have f1 : w2.frozen? ⟨b, 1, none⟩ = false := Lib.frozen_of_heap hb2 1
  obtain ⟨g, cap, rfl⟩ : ∃ g cap, v' = .slice (some ⟨g, 0, none⟩) (bs.length + 1) cap := by
    rcases hown'.2 with ⟨_, h0⟩ | ⟨g, cap, cur, fz, hv, _⟩
    · omega
    · exact ⟨g, cap, hv⟩
  go_wp2
  go_ret
  refine ⟨rfl, _, Bld.put hB (.inr rfl) hb2 (by simpa using hown') (by decide), ?_, ?_, ?_⟩
  · intro k hk hkb hkv
    rw [Below.heap_setCell w2 _ _ k hkb, hgrow.block k (by have := hb1.size; simp; omega) (fun e => hkv e.symm), Lib.alloc_old w1 _ k (by have := hb1.size; omega)]
    exact ho1.out k hkb
  · rcases hfr with h | ⟨g', h, h2⟩
    · exact .inl h
    · exact .inr ⟨g', h, by have := hb1.size; omega⟩
  · exact ((hb1.alloc (by have := hb1.size; omega) _).grown hgrow (by have := hb1.size; simp; omega) (fun k hk => (hown.lt k hk).1)).setCell (p := ⟨b, 1, none⟩) hB _


set_option maxHeartbeats 1000000 in
theorem digit_any (n : Int) (w : World) :
    Calls Try.prog 24 #[.int .u8 n] w fun e w' => e = .returned (.int .i64 (digitI n)) ∧ w = w' := by
  go_enter Try.func24, Try.ntmps24
  go_wp2
  go_loop [3] (fun i => ∃ k : Nat, k ≤ 16 ∧ i = .int .i64 k ∧ ∀ j, j < k → ((hexc j).toNat : Int) ≠ n) (fun i => 16 - (intOf i).toNat)
  case atStart => exact ⟨0, by omega, rfl, by intro j hj; omega⟩
  case round =>
    obtain ⟨k, hk, rfl, hno⟩ := hrel
    have HN : Hid (∀ j, j < k → ((hexc j).toNat : Int) ≠ n) := hno
    clear hno
    by_cases hlt : k < 16
    · by_cases heq : ((hexc k).toNat : Int) = n
      · have hb : (((hexc k).toNat : Int) == n) = true := by simp [heq]
        have HE : Hid ((k : Int) = digitI n) := by show (k : Int) = digitI n; rw [← heq, digit_hexc k hlt]
        clear heq
        go_wp2
        go_ret
        exact ⟨ret_int HE.out, rfl⟩
      · have hb : (((hexc k).toNat : Int) == n) = false := by simp [heq]
        go_wp2
        exact ⟨⟨k + 1, by omega, by go_num, fun j hj => if h : j = k then h ▸ heq else HN.out j (by omega)⟩, by simp [intOf]; omega⟩
    · go_wp2
      go_ret
      exact ⟨ret_int (digit_none n (fun j hj => HN.out j (by omega))).symm, rfl⟩
end Go.Proofs.Ytgiojkhmkeocfaa
