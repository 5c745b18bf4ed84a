/-
  Texts that belong together, joined: CxM4, CxM5, CxM6, CxM7, NoJn, NoTx, NoB, NoRf, NoCg, NoPr, CxLen, CxR, CxP, CwC, CwD.
-/
import Derived.Test.YtgcccpmcbjfaaaaDoorPartA7
import Derived.Test.YtgcccpmcbjfaaaaDoorPartA2
import Derived.Lib.ItoaNum
import Derived.Laws.IdiomStrings
import Derived.Test.YtgcccpmcbjfaaaaDoorPartA3
import Derived.Deep.RegionHeld3
import Derived.Deep.CutBlock
import Derived.Deep.DeepCutAuto
import Derived.Test.YtgcccpmcbjfaaaaDoorPartA5
import Derived.Test.YtgcccpmcbjfaaaaDoorPartA6
import Derived.Lib.IndexAny
import Derived.Laws.RangeAny

/- The context form: hunks and patches are read as they were written; plain mathematics. -/
namespace Go.Proofs.YtgcccpmcbjfaaaaDoor
open Ln

/-- a hunk that is read as it was -/
structure Gh (h : Hk) : Prop where
  chk : chkH h = 0
  nf : Nf false h.ls
  ea : 2 ≤ h.AN → h.A + h.AN - 1 ≤ 2147483647
  eb : 2 ≤ h.BN → h.B + h.BN - 1 ≤ 2147483647
theorem chk_out {h : Hk} (hc : chkH h = 0) : rngB h = true ∧ fldB h.ls = true ∧ h.AN = (oldL h).length ∧ h.BN = (newL h).length ∧ (h.ls.all fun m => decide (m.sg = 32)) = false := by
  unfold chkH at hc
  split at hc
  · cases hc
  · rename_i h1
    split at hc
    · cases hc
    · rename_i h2
      split at hc
      · cases hc
      · rename_i h3
        split at hc
        · cases hc
        · rename_i h4
          refine ⟨by simpa using h1, by simpa using h2, ?_, ?_, by simpa using h4⟩ <;> omega
theorem rng_out {h : Hk} (hr : rngB h = true) : 0 ≤ h.A ∧ h.A ≤ 2147483647 ∧ 0 ≤ h.AN ∧ 0 ≤ h.B ∧ h.B ≤ 2147483647 ∧ 0 ≤ h.BN ∧ (h.A = 0 → h.AN ≤ 0) ∧ (h.B = 0 → h.BN ≤ 0) := by
  simp [rngB, nat31] at hr
  omega
/-- a side as it is written -/
def sdF (sg : Int) (l : List Mk) : Sde := if (l.any fun m => decide (m.sg = sg)) = true then sdK sg false false l else []
theorem side_sd (sg : Int) (l : List Mk) : sideL sg l = sdL (sdF sg l) := by
  unfold sideL sdF
  split
  · exact sid_sd sg l false false
  · rfl
theorem same_ne {x : Sde} (h : sameS x = false) : x ≠ [] := by
  intro e
  subst e
  cases h
theorem cx_pk {no : Int} {l : List Mk} {t : List UInt8} (h : t ∈ pkL no l) : ∃ m ∈ l, m.tx = t := by
  induction l with
  | nil => cases h
  | cons m l ih =>
    simp only [pkL] at h
    split at h
    · rcases List.mem_cons.1 h with h | h
      · exact ⟨m, by simp, h.symm⟩
      · obtain ⟨x, hx, e⟩ := ih h
        exact ⟨x, by simp [hx], e⟩
    · obtain ⟨x, hx, e⟩ := ih h
      exact ⟨x, by simp [hx], e⟩
theorem rd_sdF {sg no : Int} {c : UInt8} (hc : UInt8.ofNat sg.toNat = c) (h92 : c ≠ 92) (hs : sg = 45 ∧ no = 43 ∨ sg = 43 ∧ no = 45) {l : List Mk} (hl : ∀ m ∈ l, linB m.tx = true ∧ okS m.sg = true) (ha : abl (pkL no l) = true) (p : Nat) {rest : List (List UInt8)} (hb : Beh c rest) : rdS c p (sideL sg l ++ rest) = .ok (sdF sg l, p + (sideL sg l).length, rest) := by
  rw [side_sd]
  refine rd_side h92 (sdF sg l) p rest ?_ ?_ hb
  · intro y hy
    unfold sdF at hy
    split at hy
    · refine ⟨?_, ?_⟩
      · have := sd_kinds l false false y hy
        rw [hc] at this
        exact this
      · have h1 : y.2 ∈ (sdK sg false false l).map (·.2) := List.mem_map.2 ⟨y, hy, rfl⟩
        rw [sd_texts hs l (fun m hm => (hl m hm).2)] at h1
        obtain ⟨m, hm, e⟩ := cx_pk h1
        rw [← e]
        exact (hl m hm).1
    · cases hy
  · unfold sdF
    split
    · rw [sd_texts hs l (fun m hm => (hl m hm).2)]
      exact ha
    · rfl
theorem cx_fill {l : List Mk} (ho : ∀ m ∈ l, okS m.sg = true) (hn : (l.all fun m => decide (m.sg = 32)) = false) : oldF (sdF 45 l) (sdF 43 l) = sdK 45 false false l ∧ newF (sdF 45 l) (sdF 43 l) = sdK 43 false false l ∧ ¬ (sameS (sdF 45 l) = true ∧ sameS (sdF 43 l) = true) := by
  have k45 := sd_any (sg := 45) l (.inl rfl) false false
  have k43 := sd_any (sg := 43) l (.inr rfl) false false
  cases h45 : l.any fun m => decide (m.sg = 45) with
  | true =>
    rw [h45] at k45
    have hne := same_ne (x := sdK 45 false false l) (by rw [k45]; rfl)
    have e : sdF 45 l = sdK 45 false false l := by unfold sdF; rw [if_pos h45]
    rw [e]
    refine ⟨by unfold oldF; rw [if_neg hne], ?_, fun q => by rw [k45] at q; exact absurd q.1 (by decide)⟩
    cases h43 : l.any fun m => decide (m.sg = 43) with
    | true =>
      rw [h43] at k43
      have hne2 := same_ne (x := sdK 43 false false l) (by rw [k43]; rfl)
      have e2 : sdF 43 l = sdK 43 false false l := by unfold sdF; rw [if_pos h43]
      rw [e2]
      unfold newF
      rw [if_neg (fun q => hne2 q.2)]
    | false =>
      have e2 : sdF 43 l = [] := by unfold sdF; rw [if_neg (by rw [h43]; decide)]
      rw [e2]
      unfold newF
      rw [if_pos ⟨hne, rfl⟩]
      exact kept_sd (.inr ⟨rfl, rfl⟩) l ho h43 _ _ _ _
  | false =>
    have h43 : (l.any fun m => decide (m.sg = 43)) = true := by
      cases h43 : l.any fun m => decide (m.sg = 43) with
      | true => rfl
      | false =>
        exfalso
        have : (l.all fun m => decide (m.sg = 32)) = true := by
          rw [List.all_eq_true]
          intro m hm
          have h1 := ho m hm
          have h2 := List.any_eq_false.1 h45 m hm
          have h3 := List.any_eq_false.1 h43 m hm
          simp [okS] at h1 h2 h3 ⊢
          omega
        rw [this] at hn
        cases hn
    rw [h43] at k43
    have e : sdF 45 l = [] := by unfold sdF; rw [if_neg (by rw [h45]; decide)]
    have e2 : sdF 43 l = sdK 43 false false l := by unfold sdF; rw [if_pos h43]
    rw [e, e2]
    refine ⟨?_, by unfold newF; rw [if_neg (fun q => q.1 rfl)], fun q => by rw [k43] at q; exact absurd q.2 (by decide)⟩
    unfold oldF
    rw [if_pos rfl]
    exact kept_sd (.inl ⟨rfl, rfl⟩) l ho h45 _ _ _ _
theorem cnt_say {n : Int} {x : Sde} (h : n = x.length) : cntS (sayN n) x = false := by
  unfold cntS sayN
  refine decide_eq_false ?_
  split <;> omega
theorem rl_beh {sg e : UInt8} {p n : Int} (he : e ≠ 92) (h32 : e ≠ 32) (r : List (List UInt8)) : Beh sg (rlT e p n :: r) := by
  refine ⟨pkM_first (t := e :: e :: 32 :: (spanT p n ++ [32, e, e, e, e, 10])) (by simp [rlT]) he, ?_⟩
  intro s q hq
  cases hq
  have : rlT e p n = e :: e :: (e :: 32 :: (spanT p n ++ [32, e, e, e, e, 10])) := by simp [rlT]
  rw [this]
  simp [isSd, h32]
theorem nxt_feed {s : List UInt8} (p : Nat) (r : List (List UInt8)) : nxt p ((s ++ [10]) :: r) = .ok (s, r) := by
  simp only [nxt, fd_snoc, if_true, List.dropLast_concat]
/-- a hunk is read as it was written -/
theorem cxh_back {h : Hk} (g : Gh h) {k : Nat} (hk : k < 4096) (p : Nat) {rest : List (List UInt8)} (hb : Beh 43 rest) : cxH k p (hkL h ++ rest) = .ok (h, p + (hkL h).length, rest) := by
  obtain ⟨c1, c2, c3, c4, c5⟩ := chk_out g.chk
  obtain ⟨r1, r2, r3, r4, r5, r6, r7, r8⟩ := rng_out c1
  obtain ⟨f1, f2, f3⟩ := (fld_iff h.ls).1 c2
  obtain ⟨q1, q2, q3⟩ := cx_fill (fun m hm => (f1 m hm).2) c5
  have l1 : (sdK 45 false false h.ls).length = (oldL h).length := by
    have := congrArg List.length (sd_texts (.inl ⟨rfl, rfl⟩) h.ls (fun m hm => (f1 m hm).2) false false)
    rw [List.length_map] at this
    exact this
  have l2 : (sdK 43 false false h.ls).length = (newL h).length := by
    have := congrArg List.length (sd_texts (.inr ⟨rfl, rfl⟩) h.ls (fun m hm => (f1 m hm).2) false false)
    rw [List.length_map] at this
    exact this
  have e0 : hkL h ++ rest = (starsT ++ [10]) :: rlT 42 h.A h.AN :: (sideL 45 h.ls ++ (rlT 45 h.B h.BN :: (sideL 43 h.ls ++ rest))) := by
    simp [hkL]
  have e1 : (hkL h).length = 3 + (sideL 45 h.ls).length + (sideL 43 h.ls).length := by
    simp only [hkL, List.length_cons, List.length_append]
    omega
  have hfin : finH (p + 1) (p + 2) (p + 2 + (sideL 45 h.ls).length + 1) h.A (sayN h.AN) h.B (sayN h.BN) (sdF 45 h.ls) (sdF 43 h.ls) = .ok h := by
    unfold finH
    rw [if_neg q3, q1, q2]
    rw [if_neg (by rw [cnt_say (by omega)]; decide), if_neg (by rw [cnt_say (by omega)]; decide)]
    rw [if_neg, if_neg]
    · rw [jn_back h.ls.length h.ls _ (Nat.le_refl _) g.nf (fun m hm => (f1 m hm).2) (by omega)]
      simp only
      have a1 : ((sdK 45 false false h.ls).length : Int) = h.AN := by omega
      have a2 : ((sdK 43 false false h.ls).length : Int) = h.BN := by omega
      rw [a1, a2]
    · rintro ⟨x, y⟩
      have := List.length_pos_iff.2 y
      have := r8 x
      omega
    · rintro ⟨x, y⟩
      have := List.length_pos_iff.2 y
      have := r7 x
      omega
  unfold cxH
  rw [e0, nxt_feed]
  simp only
  rw [if_pos (by decide), if_neg (by omega)]
  rw [rl_back (p + 1) r1 (fun x => by omega) r2 g.ea]
  simp only
  rw [rd_sdF (c := 45) rfl (by decide) (.inl ⟨rfl, rfl⟩) f1 f2 (p + 2) (rl_beh (by decide) (by decide) _)]
  simp only
  rw [rl_back _ r4 (fun x => by omega) r5 g.eb]
  simp only
  rw [rd_sdF (c := 43) rfl (by decide) (.inr ⟨rfl, rfl⟩) f1 f3 _ hb]
  simp only
  rw [hfin]
  simp only
  rw [e1]
  congr 3
  omega
end Go.Proofs.YtgcccpmcbjfaaaaDoor

/- The context form: patches are read as they were written; plain mathematics. -/
namespace Go.Proofs.YtgcccpmcbjfaaaaDoor
open Ln

/-- a patch that is read as it was -/
structure Gp (p : Pth) : Prop where
  ne : p.hs ≠ []
  old : p.old.length ≤ 64
  new : p.new.length ≤ 64
  few : p.hs.length ≤ 4096
  gd : ∀ h ∈ p.hs, Gh h
theorem stars_beh {sg : UInt8} (h : Hk) (r : List (List UInt8)) : Beh sg (hkL h ++ r) := by
  refine ⟨rfl, ?_⟩
  intro s q hq
  simp only [hkL, List.cons_append, List.cons.injEq] at hq
  rw [← hq.1]
  simp [starsT, isSd]
theorem cxhs_back (hs : List Hk) : ∀ (f k p : Nat) (rest : List (List UInt8)), hs ≠ [] → (∀ h ∈ hs, Gh h) → k + hs.length ≤ 4096 → hs.length ≤ f → Beh 43 rest → pkS rest = false → cxHs f k p (hs.flatMap hkL ++ rest) = .ok (hs, p + (hs.flatMap hkL).length, rest) := by
  induction hs with
  | nil => intro f k p rest h; exact absurd rfl h
  | cons h hs ih =>
    intro f k p rest _ hg hk hf hb hr
    cases f with
    | zero => exact absurd hf (by simp)
    | succ f =>
      simp only [List.length_cons] at hk hf
      have hgh := hg h (by simp)
      simp only [List.flatMap_cons, List.append_assoc, cxHs]
      cases hs with
      | nil =>
        simp only [List.flatMap_nil, List.nil_append, List.append_nil]
        rw [cxh_back hgh (by omega) p hb]
        simp only
        rw [if_neg (by rw [hr]; decide)]
      | cons h2 hs =>
        have hi := ih f (k + 1) (p + (hkL h).length) rest (by simp) (fun x hx => hg x (by simp [hx])) (by omega) (by omega) hb hr
        have hb2 : Beh 43 ((h2 :: hs).flatMap hkL ++ rest) := by
          rw [List.flatMap_cons, List.append_assoc]
          exact stars_beh h2 _
        rw [cxh_back hgh (by omega) p hb2]
        simp only
        have hp : pkS ((h2 :: hs).flatMap hkL ++ rest) = true := rfl
        rw [if_pos hp, hi]
        simp only [List.length_append]
        congr 3
        omega
theorem name_back {ah n : List UInt8} (hn : n.length ≤ 64) (h4 : ah.length = 4) (p : Nat) (r : List (List UInt8)) : namP ah p ((ah ++ nameT n ++ [10]) :: r) = .ok (n, r) := by
  unfold namP
  rw [nxt_feed]
  simp only
  rw [if_pos (by rw [List.isPrefixOf_iff_prefix]; exact List.prefix_append _ _)]
  have : (ah ++ nameT n).drop 4 = nameT n := by rw [← h4, List.drop_left]
  rw [this, (named_iff (nameT n) n).2 ⟨rfl, hn⟩]
theorem pt_lines {p : Pth} (h : p.hs ≠ []) : ptL p = ([42, 42, 42, 32] ++ nameT p.old ++ [10]) :: ([45, 45, 45, 32] ++ nameT p.new ++ [10]) :: p.hs.flatMap hkL := by
  unfold ptL
  rw [if_neg h]
theorem pts_beh {L : List Pth} (h : ∀ p ∈ L, Gp p) : Beh 43 (L.flatMap ptL) ∧ pkS (L.flatMap ptL) = false := by
  cases L with
  | nil => exact ⟨⟨rfl, fun s r q => by cases q⟩, rfl⟩
  | cons p L =>
    rw [List.flatMap_cons, pt_lines (h p (by simp)).ne]
    refine ⟨⟨rfl, ?_⟩, rfl⟩
    intro s r q
    simp only [List.cons_append, List.cons.injEq] at q
    rw [← q.1]
    simp [isSd]
theorem hk_few (hs : List Hk) : hs.length ≤ (hs.flatMap hkL).length := by
  induction hs with
  | nil => exact Nat.le_refl _
  | cons h hs ih =>
    simp only [List.flatMap_cons, List.length_append, List.length_cons]
    have : 1 ≤ (hkL h).length := by simp [hkL]
    omega
theorem cxps_back (L : List Pth) : ∀ (f k p : Nat), (∀ q ∈ L, Gp q) → k + L.length ≤ 64 → L.length ≤ f → cxPs f k p (L.flatMap ptL) = .ok L := by
  induction L with
  | nil =>
    intro f k p _ _ _
    cases f with
    | zero => rfl
    | succ f => rfl
  | cons q L ih =>
    intro f k p hg hk hf
    cases f with
    | zero => exact absurd hf (by simp)
    | succ f =>
      have g := hg q (by simp)
      have hg2 : ∀ x ∈ L, Gp x := fun x hx => hg x (by simp [hx])
      simp only [List.length_cons] at hk hf
      simp only [List.flatMap_cons, cxPs]
      rw [pt_lines g.ne]
      rw [if_neg (by simp)]
      simp only [List.cons_append]
      have n1 := name_back (ah := [42, 42, 42, 32]) g.old rfl p (([45, 45, 45, 32] ++ nameT q.new ++ [10]) :: (q.hs.flatMap hkL ++ L.flatMap ptL))
      have n2 := name_back (ah := [45, 45, 45, 32]) g.new rfl (p + 1) (q.hs.flatMap hkL ++ L.flatMap ptL)
      simp only [List.cons_append, List.nil_append] at n1 n2 ⊢
      rw [n1]
      simp only
      rw [if_neg (by omega), n2]
      simp only
      obtain ⟨b1, b2⟩ := pts_beh hg2
      rw [cxhs_back q.hs _ 0 (p + 2) _ g.ne g.gd (by have := g.few; omega) (by have := hk_few q.hs; simp only [List.length_append]; omega) b1 b2]
      simp only
      rw [ih f (k + 1) _ hg2 (by omega) (by omega)]
theorem fed_app {x y : List (List UInt8)} (hx : Fed x) (hy : Fed y) : Fed (x ++ y) := fun s hs => (List.mem_append.1 hs).elim (hx s) (hy s)
theorem fed_cons {t : List UInt8} {y : List (List UInt8)} (ht : ∀ c ∈ t, c ≠ 10) (hy : Fed y) : Fed ((t ++ [10]) :: y) := by
  intro s hs
  rcases List.mem_cons.1 hs with rfl | hs
  · exact ⟨t, rfl, ht⟩
  · exact hy s hs
theorem fed_nil : Fed [] := fun s hs => by cases hs
theorem fed_side {sg : Int} (h10 : UInt8.ofNat sg.toNat ≠ 10) {l : List Mk} (hl : ∀ m ∈ l, linB m.tx = true) : Fed (sideL sg l) := by
  have h : ∀ r a, Fed (sidL sg r a l) := by
    induction l with
    | nil => intro r a; exact fed_nil
    | cons m l ih =>
      intro r a
      have hi := ih fun x hx => hl x (by simp [hx])
      have hm := hl m (by simp)
      simp only [sidL]
      split
      · exact fed_app (fed_line (by decide) hm) (hi _ _)
      · split
        · refine fed_app (fed_line ?_ hm) (hi _ _)
          split
          · decide
          · intro c hc
            rcases List.mem_cons.1 hc with rfl | hc
            · exact h10
            · rw [List.mem_singleton.1 hc]
              decide
        · exact hi _ _
  unfold sideL
  split
  · exact h _ _
  · exact fed_nil
theorem fed_rl {e : UInt8} (he : e ≠ 10) {p n : Int} (hp : 0 ≤ p) {y : List (List UInt8)} (hy : Fed y) : Fed (rlT e p n :: y) := by
  have e1 : rlT e p n = ([e, e, e, 32] ++ spanT p n ++ [32, e, e, e, e]) ++ [10] := by simp [rlT]
  rw [e1]
  refine fed_cons ?_ hy
  intro c hc
  rcases List.mem_append.1 hc with hc | hc
  · rcases List.mem_append.1 hc with hc | hc
    · simp only [List.mem_cons, List.not_mem_nil, or_false] at hc
      rcases hc with rfl | rfl | rfl | rfl
      · exact he
      · exact he
      · exact he
      · decide
    · exact (num_facts (span_plain hp c hc)).2.1
  · simp only [List.mem_cons, List.not_mem_nil, or_false] at hc
    rcases hc with rfl | rfl | rfl | rfl | rfl
    · decide
    · exact he
    · exact he
    · exact he
    · exact he
theorem fed_hk {h : Hk} (g : Gh h) : Fed (hkL h) := by
  obtain ⟨c1, c2, c3, c4, c5⟩ := chk_out g.chk
  obtain ⟨r1, r2, r3, r4, r5, r6, r7, r8⟩ := rng_out c1
  have f1 := ((fld_iff h.ls).1 c2).1
  unfold hkL
  refine fed_cons (by decide) (fed_rl (by decide) r1 (fed_app (fed_side (by decide) fun m hm => (f1 m hm).1) (fed_rl (by decide) r4 (fed_side (by decide) fun m hm => (f1 m hm).1))))
theorem fed_pts {L : List Pth} (h : ∀ p ∈ L, Gp p) : Fed (L.flatMap ptL) := by
  intro s hs
  obtain ⟨p, hp, hs⟩ := List.mem_flatMap.1 hs
  have g := h p hp
  rw [pt_lines g.ne] at hs
  refine fed_cons ?_ (fed_cons ?_ ?_) s hs
  · intro c hc
    rcases List.mem_append.1 hc with hc | hc
    · exact (by decide : ∀ c ∈ ([42, 42, 42, 32] : List UInt8), c ≠ 10) c hc
    · exact name_plain _ c hc
  · intro c hc
    rcases List.mem_append.1 hc with hc | hc
    · exact (by decide : ∀ c ∈ ([45, 45, 45, 32] : List UInt8), c ≠ 10) c hc
    · exact name_plain _ c hc
  · intro x hx
    obtain ⟨k, hk, hx⟩ := List.mem_flatMap.1 hx
    exact fed_hk (g.gd k hk) x hx
/-- patches are read as they were written -/
theorem cx_back {L : List Pth} (h : ∀ p ∈ L, Gp p) (hn : L.length ≤ 64) (hl : ((L.flatMap ptL).flatten).length ≤ 1048576) : cxT (L.flatMap ptL).flatten = .ok L := by
  unfold cxT
  rw [if_neg (by omega), right_split _ (fed_check (fed_pts h))]
  refine cxps_back L _ 0 0 h (by omega) ?_
  clear hn hl
  induction L with
  | nil => exact Nat.le_refl _
  | cons p L ih =>
    have := ih fun x hx => h x (by simp [hx])
    simp only [List.flatMap_cons, List.length_append, List.length_cons]
    rw [pt_lines (h p (by simp)).ne]
    simp only [List.length_cons]
    omega
end Go.Proofs.YtgcccpmcbjfaaaaDoor

/- The context form: what is read are right patches, and they are read again from their texts; plain mathematics. -/
namespace Go.Proofs.YtgcccpmcbjfaaaaDoor
open Ln

/-- the lines that were taken -/
theorem lns_far {s : List UInt8} {q n : Int} (h : lnsP s = some (q, n)) : q + n - 1 ≤ 2147483647 := by
  unfold lnsP at h
  split at h
  · rename_i x c y _
    split at h
    · cases h
      have := (prs_num (s := y)).2
      omega
    · cases h
  · split at h
    · cases h
      have := (prs_num (s := s)).2
      omega
    · cases h
theorem rng_ok {e : UInt8} {p : Nat} {ls r : List (List UInt8)} {q n : Int} (hP : Plain ls) (h : rngP e p ls = .ok ((q, n), r)) : ls.length = r.length + 1 ∧ Plain r ∧ 0 ≤ q ∧ q ≤ 2147483647 ∧ (n = -1 ∨ 1 ≤ n ∧ n ≤ 2147483647 ∧ q + n - 1 ≤ 2147483647) := by
  unfold rngP at h
  split at h
  · cases h
  · rename_i s r0 hn
    obtain ⟨a1, a2⟩ := nxt_len hP hn
    split at h
    · cases h
    · rename_i t _
      split at h
      · cases h
      · rename_i v hv
        cases h
        unfold rngI at hv
        split at hv
        · cases hv
          have := prs_num (s := t)
          exact ⟨a1, a2, this.1, this.2, .inl rfl⟩
        · have b1 := lns_right hv
          have b2 := lns_far hv
          exact ⟨a1, a2, by omega, by omega, .inr ⟨by omega, by omega, b2⟩⟩
theorem isSd_form {sg : UInt8} {s : List UInt8} (h : isSd sg s = true) (hf : fdB s = true) (hp : ∀ c ∈ s.dropLast, c ≠ 10) : ∃ a v, s = a :: 32 :: (v ++ [10]) ∧ (∀ c ∈ v, c ≠ 10) ∧ (a = 32 ∨ a = sg ∨ a = 33) := by
  cases s with
  | nil => cases h
  | cons a s =>
    cases s with
    | nil => cases h
    | cons b u =>
      simp only [isSd, Bool.and_eq_true, Bool.or_eq_true, beq_iff_eq] at h
      obtain ⟨ha, rfl⟩ := h
      rcases List.eq_nil_or_concat u with rfl | ⟨v, d, rfl⟩
      · exact absurd hf (by simp [fdB])
      · rw [List.concat_eq_append] at hf hp ⊢
        have e : a :: 32 :: (v ++ [d]) = (a :: 32 :: v) ++ [d] := by simp
        rw [e] at hf hp
        have hd : d = 10 := by
          unfold fdB at hf
          rw [List.getLast?_concat] at hf
          simpa using hf
        subst hd
        rw [List.dropLast_concat] at hp
        exact ⟨a, v, rfl, fun c hc => hp c (by simp [hc]), by rcases ha with (h | h) | h <;> simp [h]⟩
theorem lin_feed {v : List UInt8} (h : ∀ c ∈ v, c ≠ 10) : linB (v ++ [10]) = true := by
  unfold linB
  rw [List.dropLast_concat]
  have e1 : (v ++ [10]).isEmpty = false := by cases v <;> rfl
  rw [e1]
  simp only [Bool.not_false, Bool.true_and, List.all_eq_true]
  intro c hc
  simpa using h c hc
theorem lin_bare {v : List UInt8} (h : ∀ c ∈ v, c ≠ 10) (hn : v ≠ []) : linB v = true := by
  unfold linB
  have e1 : v.isEmpty = false := by
    cases v with
    | nil => exact absurd rfl hn
    | cons => rfl
  rw [e1]
  simp only [Bool.not_false, Bool.true_and, List.all_eq_true]
  intro c hc
  simpa using h c ((List.dropLast_sublist _).subset hc)
theorem rd_ok {sg : UInt8} (ls : List (List UInt8)) : ∀ {p p1 : Nat} {r : List (List UInt8)} {x : Sde}, Plain ls → rdS sg p ls = .ok (x, p1, r) → Plain r ∧ (∀ y ∈ x, linB y.2 = true ∧ (y.1 = 32 ∨ y.1 = sg ∨ y.1 = 33)) ∧ abl (x.map (·.2)) = true ∧ ls.length + p = r.length + p1 ∧ x.length ≤ ls.length := by
  induction ls with
  | nil =>
    intro p p1 r x hP h
    simp only [rdS] at h
    cases h
    exact ⟨hP, fun y hy => (by cases hy), rfl, rfl, Nat.le_refl _⟩
  | cons s ls ih =>
    intro p p1 r x hP h
    have hPr : Plain ls := fun y hy => hP y (by simp [hy])
    simp only [rdS] at h
    split at h
    · rename_i hsd
      split at h
      · rename_i hf
        obtain ⟨a, v, rfl, hv, ha⟩ := isSd_form hsd hf (hP s (by simp))
        have e1 : (a :: 32 :: (v ++ [10])).headD 0 = a := rfl
        have e2 : (a :: 32 :: (v ++ [10])).drop 2 = v ++ [10] := rfl
        rw [e1, e2] at h
        split at h
        · rename_i hm
          rw [List.dropLast_concat] at h
          cases h
          have hvn : v ≠ [] := by
            intro e
            subst e
            exact absurd hm.2 (by simp)
          have hlen : ls.tail.length + 1 = ls.length := by
            cases ls with
            | nil => exact absurd hm.1 (by decide)
            | cons => simp
          refine ⟨fun y hy => hPr y (List.mem_of_mem_tail hy), ?_, rfl, by simp only [List.length_cons]; omega, by simp⟩
          intro y hy
          rw [List.mem_singleton.1 hy]
          exact ⟨lin_bare hv hvn, ha⟩
        · split at h
          · cases h
          · rename_i l p2 r2 hr
            obtain ⟨b1, b2, b3, b4, b5⟩ := ih hPr hr
            cases h
            refine ⟨b1, ?_, ?_, by simp only [List.length_cons]; omega, by simp only [List.length_cons]; omega⟩
            · intro y hy
              rcases List.mem_cons.1 hy with rfl | hy
              · exact ⟨lin_feed hv, ha⟩
              · exact b2 y hy
            · simp only [List.map_cons, abl, fd_snoc, Bool.or_true, Bool.true_and]
              exact b3
      · cases h
    · cases h
      exact ⟨hP, fun y hy => (by cases hy), rfl, rfl, by simp⟩
theorem mkS_mks (s : Int) (x : Sde) : mkS s x = mks s (x.map (·.2)) := by simp [mkS, mks]
theorem mkS_all (s : Int) (x : Sde) : AllS s (mkS s x) := by
  intro m hm
  obtain ⟨y, _, rfl⟩ := List.mem_map.1 hm
  rfl
theorem nf_rem {R : List Mk} (hR : AllS 45 R) {t : List Mk} (ht : Nf false t) : Nf false (R ++ t) := by
  induction R with
  | nil => exact ht
  | cons m R ih =>
    have hm := hR m (by simp)
    simp only [List.cons_append, Nf]
    rw [if_pos hm]
    exact ⟨trivial, ih fun x hx => hR x (by simp [hx])⟩
theorem rst_head {x z : Sde} {y : UInt8 × List UInt8} (h : rstS x = y :: z) : y.1 = 32 := by
  induction x with
  | nil => cases h
  | cons a x ih =>
    simp only [rstS, List.dropWhile_cons] at h
    split at h
    · exact ih h
    · rename_i hq
      cases h
      simpa using hq
theorem chg_rst (x : Sde) : chgS x ++ rstS x = x := List.takeWhile_append_dropWhile
/-- what both sides make -/
theorem jn_ok (f : Nat) : ∀ {o w : Sde} {l : List Mk}, jnS f o w = some l → Nf false l ∧ (∀ m ∈ l, okS m.sg = true) ∧ pkL 43 l = o.map (·.2) ∧ pkL 45 l = w.map (·.2) ∧ ((l.all fun m => decide (m.sg = 32)) = true → sameS o = true ∧ sameS w = true) := by
  induction f with
  | zero => intro o w l h; cases h
  | succ f ih =>
    intro o w l h
    have eo := chg_rst o
    have ew := chg_rst w
    have ok45 : ∀ m ∈ mkS 45 (chgS o), okS m.sg = true := fun m hm => by rw [mkS_all 45 _ m hm]; rfl
    have ok43 : ∀ m ∈ mkS 43 (chgS w), okS m.sg = true := fun m hm => by rw [mkS_all 43 _ m hm]; rfl
    have p1 : pkL 43 (mkS 45 (chgS o)) = (chgS o).map (·.2) := by rw [mkS_mks]; exact pick_mks_in 43 45 (by decide) rfl _
    have p2 : pkL 45 (mkS 45 (chgS o)) = [] := by rw [mkS_mks]; exact pick_mks_out 45 _
    have p3 : pkL 43 (mkS 43 (chgS w)) = [] := by rw [mkS_mks]; exact pick_mks_out 43 _
    have p4 : pkL 45 (mkS 43 (chgS w)) = (chgS w).map (·.2) := by rw [mkS_mks]; exact pick_mks_in 45 43 (by decide) rfl _
    have hall : ∀ (s : Int) (x : Sde), s ≠ 32 → ((mkS s x).all fun m => decide (m.sg = 32)) = true → x = [] := by
      intro s x hs hx
      cases x with
      | nil => rfl
      | cons y x =>
        simp [mkS, hs] at hx
    rw [jnS] at h
    split at h
    · split at h
      · rename_i h1 h2
        cases h
        rw [h1, List.append_nil] at eo
        rw [h2, List.append_nil] at ew
        refine ⟨nf_rem (mkS_all _ _) ?_, ?_, ?_, ?_, ?_⟩
        · have := nf_added (mkS_all 43 (chgS w)) [] (fun s => by simp [Nf]) false
          rw [List.append_nil] at this
          exact this
        · intro m hm
          rcases List.mem_append.1 hm with hm | hm
          · exact ok45 m hm
          · exact ok43 m hm
        · rw [pkL_append, p1, p3, List.append_nil, eo]
        · rw [pkL_append, p2, p4, List.nil_append, ew]
        · intro ha
          rw [List.all_append, Bool.and_eq_true] at ha
          have z1 := hall 45 _ (by decide) ha.1
          have z2 := hall 43 _ (by decide) ha.2
          rw [z1] at eo
          rw [z2] at ew
          rw [← eo, ← ew]
          exact ⟨rfl, rfl⟩
      · rename_i k1 s o2 k2 t w2 h1 h2
        have hk1 := rst_head h1
        have hk2 := rst_head h2
        rw [h1] at eo
        rw [h2] at ew
        split at h
        · rename_i hst
          split at h
          · cases h
          · rename_i l2 hj
            obtain ⟨i1, i2, i3, i4, i5⟩ := ih hj
            cases h
            refine ⟨nf_rem (mkS_all _ _) (nf_added (mkS_all _ _) _ (fun b => by simp only [Nf]; exact i1) false), ?_, ?_, ?_, ?_⟩
            · intro m hm
              rcases List.mem_append.1 hm with hm | hm
              · exact ok45 m hm
              · rcases List.mem_append.1 hm with hm | hm
                · exact ok43 m hm
                · rcases List.mem_cons.1 hm with rfl | hm
                  · rfl
                  · exact i2 m hm
            · have e3 := congrArg (List.map (·.2)) eo
              rw [List.map_append] at e3
              rw [pkL_append, pkL_append, p1, p3, List.nil_append, ← e3]
              congr 1
              simp only [pkL, List.map_cons]
              rw [if_pos (by decide), i3]
            · have e3 := congrArg (List.map (·.2)) ew
              rw [List.map_append] at e3
              rw [pkL_append, pkL_append, p2, p4, List.nil_append, ← e3]
              congr 1
              simp only [pkL, List.map_cons]
              rw [if_pos (by decide), i4, hst]
            · intro ha
              rw [List.all_append, List.all_append, List.all_cons, Bool.and_eq_true, Bool.and_eq_true, Bool.and_eq_true] at ha
              have z1 := hall 45 _ (by decide) ha.1
              have z2 := hall 43 _ (by decide) ha.2.1
              obtain ⟨j1, j2⟩ := i5 ha.2.2.2
              rw [z1] at eo
              rw [z2] at ew
              rw [← eo, ← ew]
              simp only at hk1 hk2
              simp only [sameS, List.nil_append, List.all_cons, Bool.and_eq_true] at j1 j2 ⊢
              exact ⟨⟨by rw [hk1]; rfl, j1⟩, ⟨by rw [hk2]; rfl, j2⟩⟩
        · cases h
      · cases h
    · cases h
theorem abl_kept {x : Sde} (h : abl (x.map (·.2)) = true) : abl ((keptS x).map (·.2)) = true := by
  induction x with
  | nil => rfl
  | cons y x ih =>
    simp only [List.map_cons, abl, Bool.and_eq_true, Bool.or_eq_true] at h
    have hi := ih h.2
    simp only [keptS, List.filter_cons] at hi ⊢
    split
    · simp only [List.map_cons, abl, Bool.and_eq_true, Bool.or_eq_true]
      refine ⟨?_, hi⟩
      rcases h.1 with h1 | h1
      · have : x = [] := by simpa using h1
        subst this
        exact .inl rfl
      · exact .inr h1
    · exact hi
theorem pk_has {no : Int} {l : List Mk} {m : Mk} (hn : m.sg ≠ no) (ho : okS m.sg = true) (h : m ∈ l) : m.tx ∈ pkL no l := by
  induction l with
  | nil => cases h
  | cons x l ih =>
    simp only [pkL]
    rcases List.mem_cons.1 h with rfl | h
    · rw [if_pos ⟨hn, ho⟩]
      simp
    · split
      · exact List.mem_cons_of_mem _ (ih h)
      · exact ih h
theorem fin_ok {a0 a1 a2 : Nat} {po no pw nw : Int} {o w : Sde} {h : Hk} (ho : (∀ y ∈ o, linB y.2 = true) ∧ abl (o.map (·.2)) = true) (hw : (∀ y ∈ w, linB y.2 = true) ∧ abl (w.map (·.2)) = true) (ro : 0 ≤ po ∧ po ≤ 2147483647 ∧ (no = -1 ∨ 1 ≤ no ∧ no ≤ 2147483647 ∧ po + no - 1 ≤ 2147483647)) (rw' : 0 ≤ pw ∧ pw ≤ 2147483647 ∧ (nw = -1 ∨ 1 ≤ nw ∧ nw ≤ 2147483647 ∧ pw + nw - 1 ≤ 2147483647)) (hf : finH a0 a1 a2 po no pw nw o w = .ok h) : Gh h := by
  unfold finH at hf
  split at hf
  · cases hf
  · rename_i c0
    split at hf
    · cases hf
    · rename_i c1
      split at hf
      · cases hf
      · rename_i c2
        split at hf
        · cases hf
        · rename_i c3
          split at hf
          · cases hf
          · rename_i c4
            split at hf
            · cases hf
            · rename_i l hj
              cases hf
              obtain ⟨i1, i2, i3, i4, i5⟩ := jn_ok _ hj
              have lo : (∀ y ∈ oldF o w, linB y.2 = true) ∧ abl ((oldF o w).map (·.2)) = true := by
                unfold oldF
                split
                · exact ⟨fun y hy => hw.1 y (List.mem_filter.1 hy).1, abl_kept hw.2⟩
                · exact ho
              have lw : (∀ y ∈ newF o w, linB y.2 = true) ∧ abl ((newF o w).map (·.2)) = true := by
                unfold newF
                split
                · exact ⟨fun y hy => ho.1 y (List.mem_filter.1 hy).1, abl_kept ho.2⟩
                · exact hw
              have n1 : ¬ (no < 0 ∧ 1 < (oldF o w).length ∨ 0 ≤ no ∧ no ≠ (oldF o w).length) := by
                intro q
                exact c1 (decide_eq_true q)
              have n2 : ¬ (nw < 0 ∧ 1 < (newF o w).length ∨ 0 ≤ nw ∧ nw ≠ (newF o w).length) := by
                intro q
                exact c2 (decide_eq_true q)
              have z1 : po = 0 → (oldF o w).length = 0 := by
                intro q
                cases hq : oldF o w with
                | nil => rfl
                | cons y x => exact absurd ⟨q, by rw [hq]; simp⟩ c3
              have z2 : pw = 0 → (newF o w).length = 0 := by
                intro q
                cases hq : newF o w with
                | nil => rfl
                | cons y x => exact absurd ⟨q, by rw [hq]; simp⟩ c4
              have hlin : ∀ m ∈ l, linB m.tx = true := by
                intro m hm
                have hok := i2 m hm
                have hc : m.sg = 32 ∨ m.sg = 45 ∨ m.sg = 43 := by simp [okS] at hok; omega
                by_cases h43 : m.sg = 43
                · have : m.tx ∈ pkL 45 l := pk_has (by omega) hok hm
                  rw [i4] at this
                  obtain ⟨y, hy, e⟩ := List.mem_map.1 this
                  rw [← e]
                  exact lw.1 y hy
                · have : m.tx ∈ pkL 43 l := pk_has h43 hok hm
                  rw [i3] at this
                  obtain ⟨y, hy, e⟩ := List.mem_map.1 this
                  rw [← e]
                  exact lo.1 y hy
              have hfld : fldB l = true := (fld_iff l).2 ⟨fun m hm => ⟨hlin m hm, i2 m hm⟩, by rw [i3]; exact lo.2, by rw [i4]; exact lw.2⟩
              have hrng : rngB ⟨po, (oldF o w).length, pw, (newF o w).length, l⟩ = true := by
                simp only [rngB, nat31, Bool.and_eq_true, Bool.not_eq_true', Bool.and_eq_false_iff, decide_eq_true_eq, decide_eq_false_iff_not]
                omega
              have hall : (l.all fun m => decide (m.sg = 32)) = false := by
                cases hq : l.all fun m => decide (m.sg = 32) with
                | false => rfl
                | true =>
                  exfalso
                  obtain ⟨j1, j2⟩ := i5 hq
                  unfold oldF at j1
                  unfold newF at j2
                  by_cases e1 : o = []
                  · rw [if_neg (fun q => q.1 e1)] at j2
                    exact c0 ⟨by rw [e1]; rfl, j2⟩
                  · rw [if_neg e1] at j1
                    by_cases e2 : w = []
                    · exact c0 ⟨j1, by rw [e2]; rfl⟩
                    · rw [if_neg (fun q => e2 q.2)] at j2
                      exact c0 ⟨j1, j2⟩
              refine ⟨?_, i1, fun q => ?_, fun q => ?_⟩
              · unfold chkH
                rw [if_neg (by rw [hrng]; decide), if_neg (by rw [hfld]; decide), if_neg, if_neg (by rw [hall]; decide)]
                have a1 : ((oldL ⟨po, (oldF o w).length, pw, (newF o w).length, l⟩).length : Int) = (oldF o w).length := by
                  unfold oldL
                  rw [i3, List.length_map]
                have a2 : ((newL ⟨po, (oldF o w).length, pw, (newF o w).length, l⟩).length : Int) = (newF o w).length := by
                  unfold newL
                  rw [i4, List.length_map]
                rw [a1, a2]
                simp
              · simp only at q ⊢
                omega
              · simp only at q ⊢
                omega
end Go.Proofs.YtgcccpmcbjfaaaaDoor

/- The context form: what is read of a text are right patches, and their texts are read again as the same; plain mathematics. -/
namespace Go.Proofs.YtgcccpmcbjfaaaaDoor
open Ln

theorem rd_fewer {sg : UInt8} (ls : List (List UInt8)) : ∀ {p p1 : Nat} {r : List (List UInt8)} {x : Sde}, rdS sg p ls = .ok (x, p1, r) → r.length ≤ ls.length := by
  induction ls with
  | nil =>
    intro p p1 r x h
    simp only [rdS] at h
    cases h
    exact Nat.le_refl _
  | cons s ls ih =>
    intro p p1 r x h
    simp only [rdS] at h
    split at h
    · split at h
      · split at h
        · cases h
          simp only [List.length_tail, List.length_cons]
          omega
        · split at h
          · cases h
          · rename_i hr
            have := ih hr
            cases h
            simp only [List.length_cons]
            omega
      · cases h
    · cases h
      exact Nat.le_refl _
theorem cxh_ok {k p p1 : Nat} {ls r : List (List UInt8)} {h : Hk} (hP : Plain ls) (hh : cxH k p ls = .ok (h, p1, r)) : Gh h ∧ Plain r ∧ ls.length + p = r.length + p1 ∧ r.length < ls.length ∧ k < 4096 := by
  unfold cxH at hh
  split at hh
  · cases hh
  · rename_i s r0 hn
    obtain ⟨a1, a2⟩ := nxt_len hP hn
    split at hh
    · split at hh
      · cases hh
      · rename_i hk
        split at hh
        · cases hh
        · rename_i po no r1 h1
          obtain ⟨b1, b2, b3, b4, b5⟩ := rng_ok a2 h1
          split at hh
          · cases hh
          · rename_i o p2 r2 h2
            obtain ⟨c1, c2, c3, c4, _⟩ := rd_ok _ b2 h2
            split at hh
            · cases hh
            · rename_i pw nw r3 h3
              obtain ⟨d1, d2, d3, d4, d5⟩ := rng_ok c1 h3
              split at hh
              · cases hh
              · rename_i w p4 r4 h4
                obtain ⟨e1, e2, e3, e4, _⟩ := rd_ok _ d2 h4
                split at hh
                · cases hh
                · rename_i h5 hf
                  cases hh
                  have hle : r.length + p1 = r3.length + (p2 + 1) := by omega
                  refine ⟨fin_ok ⟨fun y hy => (c2 y hy).1, c3⟩ ⟨fun y hy => (e2 y hy).1, e3⟩ ⟨b3, b4, b5⟩ ⟨d3, d4, d5⟩ hf, e1, by omega, ?_, by omega⟩
                  have g1 := rd_fewer _ h2
                  have g2 := rd_fewer _ h4
                  omega
    · cases hh
theorem cxhs_ok (f : Nat) : ∀ {k p p1 : Nat} {ls r : List (List UInt8)} {hs : List Hk}, Plain ls → cxHs f k p ls = .ok (hs, p1, r) → hs ≠ [] ∧ (∀ h ∈ hs, Gh h) ∧ k + hs.length ≤ 4096 ∧ Plain r ∧ ls.length + p = r.length + p1 ∧ r.length < ls.length := by
  induction f with
  | zero => intro k p p1 ls r hs _ h; cases h
  | succ f ih =>
    intro k p p1 ls r hs hP h
    simp only [cxHs] at h
    split at h
    · cases h
    · rename_i h0 q1 r1 h1
      obtain ⟨a1, a2, a3, a4, a5⟩ := cxh_ok hP h1
      split at h
      · split at h
        · cases h
        · rename_i l q2 r2 h2
          obtain ⟨b1, b2, b3, b4, b5, b6⟩ := ih a2 h2
          cases h
          refine ⟨by simp, ?_, by simp only [List.length_cons]; omega, b4, by omega, by omega⟩
          intro x hx
          rcases List.mem_cons.1 hx with rfl | hx
          · exact a1
          · exact b2 x hx
      · cases h
        refine ⟨by simp, ?_, by simp only [List.length_cons, List.length_nil]; omega, a2, a3, a4⟩
        intro x hx
        rw [List.mem_singleton.1 hx]
        exact a1
theorem nam_ok {ah n : List UInt8} {p : Nat} {ls r : List (List UInt8)} (hP : Plain ls) (h : namP ah p ls = .ok (n, r)) : n.length ≤ 64 ∧ ls.length = r.length + 1 ∧ Plain r := by
  unfold namP at h
  split at h
  · cases h
  · rename_i s r0 hn
    obtain ⟨a1, a2⟩ := nxt_len hP hn
    split at h
    · split at h
      · cases h
      · rename_i m hm
        cases h
        exact ⟨((named_iff _ _).1 hm).2, a1, a2⟩
    · cases h
theorem cxps_ok (f : Nat) : ∀ {k p : Nat} {ls : List (List UInt8)} {L : List Pth}, Plain ls → cxPs f k p ls = .ok L → (∀ q ∈ L, Gp q) ∧ (k + L.length ≤ 64 ∨ L = []) := by
  induction f with
  | zero =>
    intro k p ls L _ h
    simp only [cxPs] at h
    cases h
    exact ⟨fun q hq => (by cases hq), .inr rfl⟩
  | succ f ih =>
    intro k p ls L hP h
    simp only [cxPs] at h
    split at h
    · cases h
      exact ⟨fun q hq => (by cases hq), .inr rfl⟩
    · split at h
      · cases h
      · rename_i n1 r1 h1
        obtain ⟨a1, a2, a3⟩ := nam_ok hP h1
        split at h
        · cases h
        · rename_i hk
          split at h
          · cases h
          · rename_i n2 r2 h2
            obtain ⟨b1, b2, b3⟩ := nam_ok a3 h2
            split at h
            · cases h
            · rename_i hs p3 r3 h3
              obtain ⟨c1, c2, c3, c4, c5, c6⟩ := cxhs_ok _ b3 h3
              split at h
              · cases h
              · rename_i l h4
                obtain ⟨d1, d2⟩ := ih c4 h4
                cases h
                refine ⟨?_, .inl ?_⟩
                · intro q hq
                  rcases List.mem_cons.1 hq with rfl | hq
                  · exact ⟨c1, a1, b1, by show hs.length ≤ 4096; omega, c2⟩
                  · exact d1 q hq
                · rcases d2 with d2 | rfl
                  · simp only [List.length_cons]
                    omega
                  · simp only [List.length_cons, List.length_nil]
                    omega
/-- what is read are right patches -/
theorem cx_right {t : List UInt8} {L : List Pth} (h : cxT t = .ok L) : (∀ q ∈ L, Gp q) ∧ L.length ≤ 64 := by
  unfold cxT at h
  split at h
  · cases h
  · obtain ⟨a1, a2⟩ := cxps_ok _ (split_plain t) h
    refine ⟨a1, ?_⟩
    rcases a2 with a2 | rfl
    · omega
    · exact Nat.zero_le _
theorem cx_errs {hs : List Hk} (h : ∀ x ∈ hs, chkH x = 0) : errs hs = 0 := by
  induction hs with
  | nil => rfl
  | cons x hs ih =>
    simp only [errs]
    rw [h x (by simp)]
    simpa using ih fun y hy => h y (by simp [hy])
theorem wrg_ok {p : Pth} (g : Gp p) : wrgP p = 0 := by
  unfold wrgP
  have := g.old
  have := g.new
  have := g.few
  rw [if_neg (by omega), if_neg (by omega)]
  exact cx_errs fun x hx => (g.gd x hx).chk
theorem pts_text {L : List Pth} (h : ∀ q ∈ L, Gp q) : L.flatMap ptT = (L.flatMap ptL).flatten := by
  induction L with
  | nil => rfl
  | cons p L ih =>
    rw [List.flatMap_cons, List.flatMap_cons, List.flatten_append, ih fun x hx => h x (by simp [hx])]
    unfold ptT
    rw [if_pos (wrg_ok (h p (by simp)))]
/-- what is read is written, and read again, as the same -/
theorem cx_again {t : List UInt8} {L : List Pth} (h : cxT t = .ok L) (hl : (L.flatMap ptT).length ≤ 1048576) : cxT (L.flatMap ptT) = .ok L := by
  obtain ⟨a1, a2⟩ := cx_right h
  rw [pts_text a1] at hl ⊢
  exact cx_back a1 a2 hl
end Go.Proofs.YtgcccpmcbjfaaaaDoor

/- Two texts joined. -/
namespace Go.Proofs.YtgcccpmcbjfaaaaDoor

theorem ba_join (a b : List UInt8) : ((⟨a.toArray⟩ : ByteArray) ++ (⟨b.toArray⟩ : ByteArray)) = ⟨(a ++ b).toArray⟩ := by
  apply ByteArray.ext
  simp
end Go.Proofs.YtgcccpmcbjfaaaaDoor

/- The reference's text of a number, walked: the decimal digits, with a sign ahead of a negative one. -/
namespace Go.Proofs.YtgcccpmcbjfaaaaDoor
open Go.RowKit

theorem tx_conv {P : Program} (src dst e : TypeId) (hs : P.underlying src = some (.slice e)) (he : P.underlying e = some (.int .u8)) (hd : P.underlying dst = some .string) (w : World) (x : Int) (h0 : 0 ≤ x) (h1 : x < 256) :
    (convert src dst (.slice (some ⟨w.heap.size, 0, none⟩) 1 1)).run P (w.alloc (.cells #[.int .u8 x] e)) = .ok (.string ⟨#[UInt8.ofNat x.toNat]⟩) (w.alloc (.cells #[.int .u8 x] e)) := by
  have hx : ((UInt8.ofNat x.toNat).toNat : Int) = x := by simp only [UInt8.toNat_ofNat']; omega
  refine run_convert_bytes_back (w.alloc (.cells #[.int .u8 x] e)) src dst e ⟨w.heap.size, 0, none⟩ 1 [UInt8.ofNat x.toNat] hs he hd ?_
  intro j hj
  have ej : j = 0 := by simpa using hj
  subst ej
  have := heap_alloc_new w (.cells #[.int .u8 x] e)
  show (w.alloc (.cells #[.int .u8 x] e)).cell? ⟨w.heap.size, 0 + 0, none⟩ = some (.int .u8 ((UInt8.ofNat x.toNat).toNat : Int))
  rw [hx]
  unfold World.cell?
  dsimp only
  rw [this]
  rfl
/-- the last digit of a number -/
def txc (m : Nat) : UInt8 := UInt8.ofNat (48 + m % 10)
/-- the digits ahead of what is written -/
def txp (m : Nat) : List UInt8 := if m = 0 then [] else Lib.decDigits m
theorem txp_step (m : Nat) (h : 0 < m) : txp m = txp (m / 10) ++ [txc m] := by
  unfold txp
  rw [if_neg (by omega), Lib.decDigits]
  by_cases h10 : m < 10
  · rw [dif_pos h10, if_pos (by omega)]
    have : m % 10 = m := by omega
    simp [txc, this]
  · rw [dif_neg h10, if_neg (by omega)]; rfl
theorem dec_txp (m : Nat) : Lib.decDigits m = txp (m / 10) ++ [txc m] := by
  by_cases h : m = 0
  · subst h; rw [Lib.decDigits]; simp [txp, txc]
  · have := txp_step m (by omega)
    rw [← this]; simp [txp, h]
theorem dec_short : ∀ (n m : Nat), m < 10 ^ (n + 1) → (Lib.decDigits m).length ≤ n + 1
  | 0, m, h => by rw [Lib.decDigits, dif_pos (by simpa using h)]; simp
  | n + 1, m, h => by
    rw [Lib.decDigits]
    split
    · simp
    · have h2 : m / 10 < 10 ^ (n + 1) := by
        rw [Nat.div_lt_iff_lt_mul (by omega), ← Nat.pow_succ]; exact h
      have := dec_short n (m / 10) h2
      simp; omega
theorem itoa_short (n : Int) (h0 : -9223372036854775808 ≤ n) (h1 : n ≤ 9223372036854775807) : (Lib.itoa n).length ≤ 21 := by
  have hal : (Lib.decDigits n.natAbs).length ≤ 20 := dec_short 19 n.natAbs (by omega)
  unfold Lib.itoa
  split
  · simp only [List.length_cons]
    omega
  · have e : n.toNat = n.natAbs := by omega
    rw [e]
    omega
set_option maxHeartbeats 1000000 in
theorem rdigits_f (m : Nat) (hm : m < 18446744073709551616) (w : World) :
    Calls Tryd.prog 46 #[.int .u64 (m : Int)] w fun e w' => e = .returned (.string ⟨(Lib.decDigits m).toArray⟩) ∧ Below w.heap.size w w' := by
  have hcv : ∀ (u : World) (k : Nat), (convert 34 9 (.slice (some ⟨u.heap.size, 0, none⟩) 1 1)).run Tryd.prog (u.alloc (.cells #[.int .u8 (48 + (k : Int) % 10)] 5)) = .ok (.string ⟨([txc k] : List UInt8).toArray⟩) (u.alloc (.cells #[.int .u8 (48 + (k : Int) % 10)] 5)) := fun u k => by
    have h := tx_conv (P := Tryd.prog) 34 9 5 Tryd.underlying34 Tryd.underlying5 Tryd.underlying9 u (48 + (k : Int) % 10) (by omega) (by omega)
    have e : (48 + (k : Int) % 10).toNat = 48 + k % 10 := by omega
    rw [e] at h
    exact h
  have HM : Hid (Lib.decDigits m = txp (m / 10) ++ [txc m]) := dec_txp m
  go_enter Tryd.func46, Tryd.ntmps46
  go_wp2
  go_loopw [0, 3] (fun n s wr => ∃ (k : Nat) (acc : List UInt8), k < 18446744073709551616 ∧ n = .int .u64 k ∧ s = .string ⟨acc.toArray⟩ ∧ Below w.heap.size w wr ∧ txp k ++ acc = Lib.decDigits m) (fun n _ _ => (intOf n).toNat)
  case atStart => exact ⟨m / 10, [txc m], by omega, by go_num, rfl, (Below.refl _ w).alloc (Nat.le_refl _) _, HM.out.symm⟩
  case round =>
    obtain ⟨k, acc, hk, rfl, rfl, hbr, hacc⟩ := hrel
    have HA : Hid (txp k ++ acc = Lib.decDigits m) := hacc
    have hal : acc.length ≤ 20 := by
      have h1 := dec_short 19 m (by omega)
      rw [← hacc, List.length_append] at h1
      omega
    clear hacc
    by_cases h0 : 0 < k
    · have HP : Hid (txp k = txp (k / 10) ++ [txc k]) := txp_step k h0
      go_wp2
      refine ⟨⟨k / 10, [txc k] ++ acc, by omega, by go_num, ?_, hbr.alloc hbr.size _, by rw [← HA.out, HP.out]; simp⟩, by simp [intOf]; omega⟩
      exact congrArg Value.string (ba_join [txc k] acc)
    · have e : k = 0 := by omega
      subst e
      go_wp2
      go_ret
      exact ⟨by have := HA.out; rw [← this]; rfl, hbr⟩
theorem tx_wrap (n : Int) (h : n < 0) (h0 : -9223372036854775808 ≤ n) : IntKind.u64.wrap (-IntKind.u64.wrap n) = (n.natAbs : Int) := by
  simp [IntKind.wrap, IntKind.bits, IntKind.signed]
  omega
set_option maxHeartbeats 1000000 in
theorem rText_f (n : Int) (h0 : -9223372036854775808 ≤ n) (h1 : n ≤ 9223372036854775807) (w : World) :
    Calls Tryd.prog 28 #[.int .i64 n] w fun e w' => e = .returned (.string ⟨(Lib.itoa n).toArray⟩) ∧ Below w.heap.size w w' := by
  by_cases hn : n < 0
  · have HI : Hid (Lib.itoa n = [45] ++ Lib.decDigits n.natAbs) := by show Lib.itoa n = _; simp [Lib.itoa, hn]
    have hal : (Lib.decDigits n.natAbs).length ≤ 20 := dec_short 19 n.natAbs (by omega)
    go_enter Tryd.func28, Tryd.ntmps28
    go_wp2_with fail
    rw [tx_wrap n hn h0]
    refine (rdigits_f n.natAbs (by omega) _).mono ?_
    rintro e w1 ⟨rfl, hb1⟩
    go_wp2
    go_ret
    exact ⟨by rw [HI.out]; exact congrArg (fun s => Ending.returned (Value.string s)) (ba_join [45] _), hb1⟩
  · obtain ⟨m, rfl⟩ := Int.eq_ofNat_of_zero_le (Int.not_lt.1 hn)
    have HI : Hid (Lib.itoa (m : Int) = Lib.decDigits m) := by show Lib.itoa (m : Int) = _; simp [Lib.itoa]
    go_enter Tryd.func28, Tryd.ntmps28
    go_wp2_with fail
    refine (rdigits_f m (by omega) _).mono ?_
    rintro e w1 ⟨rfl, hb1⟩
    go_wp2
    go_ret
    exact ⟨by rw [HI.out]; rfl, hb1⟩
end Go.Proofs.YtgcccpmcbjfaaaaDoor

/- The reference's Bare, walked: a line without its line feed. -/
namespace Go.Proofs.YtgcccpmcbjfaaaaDoor
open Go.RowKit
attribute [local go_sem] ByteArray.extract_mk

theorem no_at (l : List UInt8) (k : Nat) (h : k < (⟨l.toArray⟩ : ByteArray).size) : (⟨l.toArray⟩ : ByteArray)[k]'h = l[k]'(h) := rfl
attribute [local go_sem] no_at
/-- a line without its line feed -/
def bareT (s : List UInt8) : List UInt8 := if fdB s = true then s.dropLast else s
theorem bareT_yes {l : List UInt8} (h0 : 0 < l.length) (h : l[l.length - 1] = 10) : bareT l = l.take (l.length - 1) ∧ fdB l = true := by
  have hf : fdB l = true := by unfold fdB; rw [List.getLast?_eq_getElem?, List.getElem?_eq_getElem (by omega), h]; rfl
  exact ⟨by rw [bareT, hf, List.dropLast_eq_take]; rfl, hf⟩
theorem bareT_no {l : List UInt8} (h0 : 0 < l.length) (h : l[l.length - 1] ≠ 10) : bareT l = l ∧ fdB l = false := by
  have hf : fdB l = false := by unfold fdB; rw [List.getLast?_eq_getElem?, List.getElem?_eq_getElem (by omega)]; simpa using h
  exact ⟨by rw [bareT, hf]; rfl, hf⟩
set_option maxHeartbeats 400000 in
theorem rBare_f (l : List UInt8) (w : World) (hl : l.length ≤ 9223372036854775807) :
    Calls Tryd.prog 29 #[.string ⟨l.toArray⟩] w fun e w' => e = .returned (.tuple #[.string ⟨(bareT l).toArray⟩, .bool (fdB l)]) ∧ w = w' := by
  rcases Nat.eq_zero_or_pos l.length with h0 | h0
  · obtain rfl := List.eq_nil_of_length_eq_zero h0
    go_enter Tryd.func29, Tryd.ntmps29
    go_wp2
    go_ret2
    exact ⟨rfl, rfl⟩
  · have hn : ((l.length : Int) == 0) = false := beq_eq_false_iff_ne.2 (by omega)
    have hi : (((l.length : Int) - 1).toNat) = l.length - 1 := by omega
    have i1 : 0 ≤ (l.length : Int) - 1 := by omega
    have i2 : (l.length : Int) - 1 < (l.length : Int) := by omega
    have i3 : (l.length : Int) - 1 ≤ (l.length : Int) := by omega
    by_cases h : l[l.length - 1] = 10
    · obtain ⟨e1, e2⟩ := bareT_yes h0 h
      rw [e1, e2]
      have hb : ((l[l.length - 1].toNat : Int) != 10) = false := by rw [h]; rfl
      go_enter Tryd.func29, Tryd.ntmps29
      go_wp2
      go_ret2
      exact ⟨rfl, rfl⟩
    · obtain ⟨e1, e2⟩ := bareT_no h0 h
      rw [e1, e2]
      have hb : ((l[l.length - 1].toNat : Int) != 10) = true := (by
        rw [bne_iff_ne]
        intro hq
        exact h (UInt8.toNat_inj.1 (by show _ = 10; omega)))
      go_enter Tryd.func29, Tryd.ntmps29
      go_wp2
      go_ret2
      exact ⟨rfl, rfl⟩
end Go.Proofs.YtgcccpmcbjfaaaaDoor

/- The reference's small functions of the normal form's writing, walked: a range of lines, a line behind a sign. -/
namespace Go.Proofs.YtgcccpmcbjfaaaaDoor
open Go.RowKit
attribute [local go_sem] ByteArray.extract_mk no_at

set_option maxHeartbeats 1000000 in
theorem rLine_f (ah s : List UInt8) (w : World) (h1 : ah.length ≤ 10) (h2 : s.length ≤ 2305843009213693952) :
    Calls Tryd.prog 17 #[.string ⟨ah.toArray⟩, .string ⟨s.toArray⟩] w fun e w' => e = .returned (.string ⟨((lnL ah s).flatten).toArray⟩) ∧ w' = w := by
  go_enter Tryd.func17, Tryd.ntmps17
  go_wp2_with fail
  refine (rBare_f s _ (by omega)).mono ?_
  rintro e w1 ⟨rfl, rfl⟩
  cases hf : fdB s with
  | true =>
    have HT : Hid (ah ++ s = (lnL ah s).flatten) := (by show _ = _; unfold lnL; rw [if_pos hf]; simp)
    go_wp2
    go_ret
    exact ⟨by rw [← HT.out]; simp [ba_join], rfl⟩
  | false =>
    have HT : Hid (ah ++ s ++ [10] ++ markT = (lnL ah s).flatten) := (by show _ = _; unfold lnL; rw [if_neg (by rw [hf]; decide)]; simp)
    go_wp2
    go_ret
    exact ⟨by rw [← HT.out]; simp [ba_join, markT], rfl⟩
end Go.Proofs.YtgcccpmcbjfaaaaDoor

/- The reference's change of the normal form, walked. -/
namespace Go.Proofs.YtgcccpmcbjfaaaaDoor
open Go.RowKit

/-- two texts can be joined -/
def Fits (x y : List UInt8) : Prop := x.length + y.length ≤ 4611686018427387904
theorem add_fits {x y : List UInt8} (h : Fits x y) (P : Program) (u : World) : (Op.stringOp .add ⟨x.toArray⟩ ⟨y.toArray⟩).run P u = .ok (.string ⟨(x ++ y).toArray⟩) u := by
  unfold Fits at h
  have e : ¬ (((⟨x.toArray⟩ : ByteArray).size + (⟨y.toArray⟩ : ByteArray).size : Nat) : Int) > IntKind.i64.max := by
    have h1 : (⟨x.toArray⟩ : ByteArray).size = x.length := rfl
    have h2 : (⟨y.toArray⟩ : ByteArray).size = y.length := rfl
    have h3 : IntKind.i64.max = 9223372036854775807 := rfl
    rw [h1, h2, h3]
    omega
  unfold Op.stringOp
  dsimp only
  rw [if_neg e, ba_join]
  rfl
/-- a change in a box, and all below it as it was -/
structure Cs (c : Ch) (b : Nat) (W w : World) : Prop where
  c0 : w.cell? ⟨b, 0, none⟩ = some (.int .i64 c.A)
  c1 : w.cell? ⟨b, 1, none⟩ = some (.int .i64 c.AN)
  c2 : w.cell? ⟨b, 2, none⟩ = some (.int .i64 c.B)
  c3 : w.cell? ⟨b, 3, none⟩ = some (.int .i64 c.BN)
  lt : b < w.heap.size
  low : Below W.heap.size W w
theorem Cs.keep {c : Ch} {b : Nat} {W w w' : World} (h : Cs c b W w) (hb : Below w.heap.size w w') : Cs c b W w' := by
  have hk : ∀ o, w'.cell? ⟨b, o, none⟩ = w.cell? ⟨b, o, none⟩ := fun o => by
    unfold World.cell?
    dsimp only
    rw [hb.block b h.lt]
  exact ⟨(hk 0).trans h.c0, (hk 1).trans h.c1, (hk 2).trans h.c2, (hk 3).trans h.c3, Nat.lt_of_lt_of_le h.lt hb.size, h.low.trans (hb.mono h.low.size)⟩
theorem cs_drew (c : Ch) (b : Nat) (W w : World) : Cs c b W w.drew ↔ Cs c b W w := ⟨fun h => ⟨h.c0, h.c1, h.c2, h.c3, h.lt, (h.low.trans ⟨rfl, rfl, rfl, Nat.le_refl _, fun _ _ => rfl⟩ : Below W.heap.size W w)⟩, fun h => ⟨h.c0, h.c1, h.c2, h.c3, h.lt, h.low.drew⟩⟩
attribute [local simp] cs_drew
/-- a call that leaves all below as it was leaves that change, too -/
theorem cs_stay {P : Program} {f : FuncId} {args : Array Value} {v : Value} {w : World} (h : Calls P f args w fun e w' => e = .returned v ∧ Below w.heap.size w w') {c : Ch} {A AN B BN : Int} (hc : Hid (⟨A, AN, B, BN⟩ = c)) (b : Nat) (W : World) (hS : Cs c b W w) :
    Calls P f args w fun e w' => e = .returned v ∧ w'.cell? ⟨b, 0, none⟩ = some (.int .i64 A) ∧ w'.cell? ⟨b, 1, none⟩ = some (.int .i64 AN) ∧ w'.cell? ⟨b, 2, none⟩ = some (.int .i64 B) ∧ w'.cell? ⟨b, 3, none⟩ = some (.int .i64 BN) ∧ Cs c b W w' := by
  have hc2 := hc.out
  subst hc2
  refine h.mono ?_
  rintro e w' ⟨rfl, hb⟩
  have hS' := hS.keep hb
  exact ⟨rfl, hS'.c0, hS'.c1, hS'.c2, hS'.c3, hS'⟩
theorem rng_short (p n : Int) (h0 : 0 ≤ p) (h1 : p ≤ 4611686018427387904) (h2 : 0 ≤ n) (h3 : n ≤ 4611686018427387900) : (rngT p n).length ≤ 43 := by
  have l1 := itoa_short (p + 1) (by omega) (by omega)
  have l2 := itoa_short (p + n) (by omega) (by omega)
  unfold rngT
  split
  · omega
  · simp only [List.length_append, List.length_cons]
    omega
theorem flatM_app {α : Type} (f : α → List (List UInt8)) (x y : List α) : ((x ++ y).flatMap f).flatten = (x.flatMap f).flatten ++ (y.flatMap f).flatten := by simp
/-- one line more -/
theorem cut_more {a : List (List UInt8)} {p n k : Nat} (hk : k < n) (hn : p + n ≤ a.length) : cut a (p : Int) ((k + 1 : Nat) : Int) = cut a p (k : Nat) ++ [a[p + k]'(by omega)] := by
  have h := @cut_cat a (p : Int) (k : Nat) 1 (by omega) (by omega) (by omega)
  have e : cut a ((p : Int) + (k : Nat)) 1 = [a[p + k]'(by omega)] := by
    unfold cut
    have e1 : ((p : Int) + (k : Nat)).toNat = p + k := by omega
    rw [e1, List.drop_eq_getElem_cons (by omega)]
    rfl
  rw [← e, h]
  rfl
theorem cut_pre {a : List (List UInt8)} {p n k : Nat} (hk : k ≤ n) (f : List UInt8 → List (List UInt8)) : ∃ z, ((cut a (p : Int) (n : Nat)).flatMap f).flatten = ((cut a (p : Int) (k : Nat)).flatMap f).flatten ++ z := by
  have h := @cut_cat a (p : Int) (k : Nat) ((n - k : Nat) : Int) (by omega) (by omega) (by omega)
  have e : ((k : Nat) : Int) + ((n - k : Nat) : Int) = (n : Nat) := by omega
  rw [e] at h
  rw [← h, flatM_app]
  exact ⟨_, rfl⟩
end Go.Proofs.YtgcccpmcbjfaaaaDoor

/- The reference's Print of the normal form, walked. -/
namespace Go.Proofs.YtgcccpmcbjfaaaaDoor
open Go.RowKit

theorem prt_more {l : List Ch} {a b : List (List UInt8)} {k : Nat} (hk : k < l.length) : prtT (l.take (k + 1)) a b = prtT (l.take k) a b ++ (chgL a b l[k]).flatten := by
  unfold prtT prtL
  rw [List.take_succ_eq_append_getElem hk, List.flatMap_append, List.flatten_append, List.flatMap_singleton]
theorem prt_pre {l : List Ch} {a b : List (List UInt8)} (k : Nat) : (prtT (l.take k) a b).length ≤ (prtT l a b).length := by
  have e : prtT l a b = prtT (l.take k) a b ++ prtT (l.drop k) a b := by
    unfold prtT prtL
    rw [← List.flatten_append, ← List.flatMap_append, List.take_append_drop]
  rw [e, List.length_append]
  omega
/-- how long what is written is -/
theorem lnL_len (ah s : List UInt8) : (lnL ah s).flatten.length ≤ ah.length + s.length + 29 := by
  unfold lnL
  split <;> simp [markT] <;> omega
theorem lns_len (ah : List UInt8) (x : List (List UInt8)) : (x.flatMap (lnL ah)).flatten.length ≤ x.length * (ah.length + 29) + x.flatten.length := by
  induction x with
  | nil => simp
  | cons s x ih =>
    have h := lnL_len ah s
    simp only [List.flatMap_cons, List.flatten_append, List.length_append, List.length_cons, List.flatten_cons]
    have e : (x.length + 1) * (ah.length + 29) = x.length * (ah.length + 29) + (ah.length + 29) := Nat.succ_mul _ _
    omega
end Go.Proofs.YtgcccpmcbjfaaaaDoor

/- How long the context form of a patch is; plain mathematics. -/
namespace Go.Proofs.YtgcccpmcbjfaaaaDoor
open Ln

/-- the bytes of lines -/
def txS : List Mk → Nat
  | [] => 0
  | m :: l => m.tx.length + txS l
theorem cln_len (ah s : List UInt8) : (lnL ah s).flatten.length ≤ ah.length + s.length + 29 := by
  unfold lnL
  split
  · simp only [List.flatten_cons, List.flatten_nil, List.length_append, List.length_nil]
    omega
  · simp only [List.flatten_cons, List.flatten_nil, List.length_append, List.length_nil, List.length_cons, markT]
    omega
theorem sid_len (sg : Int) (l : List Mk) : ∀ r a, (sidL sg r a l).flatten.length ≤ 31 * l.length + txS l := by
  induction l with
  | nil => intro r a; exact Nat.le_refl _
  | cons m l ih =>
    intro r a
    simp only [sidL, txS, List.length_cons]
    split
    · have h1 := cln_len [32, 32] m.tx
      have h2 := ih false false
      simp only [List.flatten_append, List.length_append, List.length_cons, List.length_nil] at h1 ⊢
      omega
    · split
      · have h2 := ih (r || decide (m.sg = 45)) (a || decide (m.sg = 43))
        have h1 := cln_len (if ((r || anyS 45 (m :: l)) && (a || anyS 43 (m :: l))) = true then [33, 32] else [UInt8.ofNat sg.toNat, 32]) m.tx
        have h3 : (if ((r || anyS 45 (m :: l)) && (a || anyS 43 (m :: l))) = true then [33, 32] else [UInt8.ofNat sg.toNat, 32]).length = 2 := by split <;> rfl
        rw [h3] at h1
        simp only [List.flatten_append, List.length_append]
        omega
      · have h2 := ih (r || decide (m.sg = 45)) (a || decide (m.sg = 43))
        omega
theorem side_len (sg : Int) (l : List Mk) : (sideL sg l).flatten.length ≤ 31 * l.length + txS l := by
  unfold sideL
  split
  · exact sid_len sg l _ _
  · exact Nat.zero_le _
theorem span_len {p n : Int} (hp : 0 ≤ p) (hb : p ≤ 2147483647) (hn : n ≤ 2147483647) : (spanT p n).length ≤ 61 := by
  have r1 := itoa_short p (by omega) (by omega)
  unfold spanT
  split
  · omega
  · have r2 := itoa_short (p + n - 1) (by omega) (by omega)
    simp only [List.length_append, List.length_cons]
    omega
theorem chk_hi {h : Hk} (hr : rngB h = true) : h.AN ≤ 2147483647 ∧ h.BN ≤ 2147483647 := by
  simp [rngB, nat31] at hr
  omega
theorem hkl_len {h : Hk} (hc : chkH h = 0) : (hkL h).flatten.length ≤ 200 + 62 * h.ls.length + 2 * txS h.ls := by
  obtain ⟨c1, _⟩ := chk_out hc
  obtain ⟨r1, r2, r3, r4, r5, r6, _⟩ := rng_out c1
  obtain ⟨r7, r8⟩ := chk_hi c1
  have s1 := side_len 45 h.ls
  have s2 := side_len 43 h.ls
  have s3 := span_len r1 r2 r7
  have s4 := span_len r4 r5 r8
  simp only [hkL, rlT, starsT, List.flatten_cons, List.flatten_append, List.length_append, List.length_cons, List.length_nil]
  omega
/-- the lines and bytes of hunks -/
def hsS : List Hk → Nat
  | [] => 0
  | h :: l => 200 + 62 * h.ls.length + 2 * txS h.ls + hsS l
theorem hks_len {l : List Hk} (h : ∀ x ∈ l, chkH x = 0) : (l.flatMap hkL).flatten.length ≤ hsS l := by
  induction l with
  | nil => exact Nat.le_refl _
  | cons x l ih =>
    have h1 := ih fun y hy => h y (by simp [hy])
    have h2 := hkl_len (h x (by simp))
    simp only [List.flatMap_cons, List.flatten_append, List.length_append, hsS]
    omega
theorem name_len (n : List UInt8) : (nameT n).length ≤ 3 * n.length + 11 := by
  unfold nameT
  split
  · simp only [devN, List.length_cons, List.length_nil]
    omega
  · split
    · omega
    · have := Q.quote_length n
      omega
theorem ptl_len {p : Pth} (h : ∀ x ∈ p.hs, chkH x = 0) : (ptL p).flatten.length ≤ 32 + 3 * p.old.length + 3 * p.new.length + hsS p.hs := by
  unfold ptL
  split
  · exact Nat.zero_le _
  · have h1 := hks_len h
    have h2 := name_len p.old
    have h3 := name_len p.new
    simp only [List.flatten_cons, List.length_append, List.length_cons, List.length_nil]
    omega
theorem cerrs_out {l : List Hk} (h : errs l = 0) : ∀ x ∈ l, chkH x = 0 := by
  induction l with
  | nil => intro x hx; cases hx
  | cons y l ih =>
    simp only [errs] at h
    split at h
    · rename_i hq
      exact absurd h hq
    · rename_i hq
      intro x hx
      rcases List.mem_cons.1 hx with rfl | hx
      · omega
      · exact ih h x hx
theorem wrg_out {p : Pth} (h : wrgP p = 0) : p.old.length ≤ 64 ∧ p.new.length ≤ 64 ∧ p.hs.length ≤ 4096 ∧ ∀ x ∈ p.hs, chkH x = 0 := by
  unfold wrgP at h
  split at h
  · cases h
  · split at h
    · cases h
    · exact ⟨by omega, by omega, by omega, cerrs_out h⟩
theorem pt_len (p : Pth) : (ptT p).length ≤ 416 + hsS p.hs := by
  unfold ptT
  split
  · rename_i h
    obtain ⟨h1, h2, _, h4⟩ := wrg_out h
    have := ptl_len h4
    omega
  · exact Nat.zero_le _
end Go.Proofs.YtgcccpmcbjfaaaaDoor

/- The context form: a side's lines one by one, by what lies ahead of a place and behind it (the reference's way); plain mathematics. -/
namespace Go.Proofs.YtgcccpmcbjfaaaaDoor

/-- does the piece that ends a list have a sign? -/
def endS (sg : Int) (P : List Mk) : Bool := anyS sg P.reverse
theorem ends_snoc (sg : Int) (P : List Mk) (m : Mk) : endS sg (P ++ [m]) = if m.sg = 32 then false else endS sg P || decide (m.sg = sg) := by
  unfold endS
  rw [List.reverse_append]
  simp only [List.reverse_cons, List.reverse_nil, List.nil_append, List.cons_append, anyS]
  split
  · rfl
  · exact Bool.or_comm _ _
/-- does the piece around a place have both signs? -/
def bothM (P S : List Mk) : Bool := (endS 45 P || anyS 45 S) && (endS 43 P || anyS 43 S)
/-- what a line makes of a side -/
def lineS (sg : Int) (P : List Mk) (m : Mk) (S : List Mk) : List (List UInt8) := if m.sg = 32 then lnL [32, 32] m.tx else if m.sg = sg then lnL (if bothM P (m :: S) = true then [33, 32] else [UInt8.ofNat sg.toNat, 32]) m.tx else []
/-- a side from a place on -/
def fromS (sg : Int) (P S : List Mk) : List (List UInt8) := sidL sg (endS 45 P) (endS 43 P) S
theorem from_cons (sg : Int) (P : List Mk) (m : Mk) (S : List Mk) : fromS sg P (m :: S) = lineS sg P m S ++ fromS sg (P ++ [m]) S := by
  unfold fromS lineS
  simp only [sidL, ends_snoc]
  by_cases h : m.sg = 32
  · rw [if_pos h, if_pos h, if_pos h, if_pos h]
  · rw [if_neg h, if_neg h, if_neg h, if_neg h]
    by_cases h2 : m.sg = sg
    · rw [if_pos h2, if_pos h2]
      rfl
    · rw [if_neg h2, if_neg h2]
      rfl
theorem from_all (sg : Int) (l : List Mk) : fromS sg [] l = sidL sg false false l := rfl
end Go.Proofs.YtgcccpmcbjfaaaaDoor

/- The context form: the signs with which the code shows lines; plain mathematics. -/
namespace Go.Proofs.YtgcccpmcbjfaaaaDoor
open Ln

def chgM (l : List Mk) : List Mk := l.takeWhile fun m => m.sg != 32
def rstM (l : List Mk) : List Mk := l.dropWhile fun m => m.sg != 32
/- signs that are shown -/
def shwL : Bool → Bool → List Mk → List Int
  | _, _, [] => []
  | r, a, m :: l => if m.sg = 32 then 32 :: shwL false false l else (if ((r || anyS 45 (m :: l)) && (a || anyS 43 (m :: l))) = true then 33 else m.sg) :: shwL (r || decide (m.sg = 45)) (a || decide (m.sg = 43)) l
theorem shw_len (l : List Mk) : ∀ r a, (shwL r a l).length = l.length := by
  induction l with
  | nil => intro r a; rfl
  | cons m l ih =>
    intro r a
    simp only [shwL]
    split <;> simp [ih]
/-- the lines of a side behind given signs -/
def sidZ (sg : Int) : List Mk → List Int → List (List UInt8)
  | m :: l, c :: sh => (if m.sg = 32 ∨ m.sg = sg then lnL [UInt8.ofNat c.toNat, 32] m.tx else []) ++ sidZ sg l sh
  | _, _ => []
theorem sid_shw (sg : Int) (l : List Mk) : ∀ r a, sidZ sg l (shwL r a l) = sidL sg r a l := by
  induction l with
  | nil => intro r a; rfl
  | cons m l ih =>
    intro r a
    simp only [shwL, sidL]
    by_cases h : m.sg = 32
    · rw [if_pos h, if_pos h]
      simp only [sidZ]
      rw [if_pos (.inl h), ih]
      rfl
    · rw [if_neg h, if_neg h]
      simp only [sidZ]
      rw [ih]
      by_cases h2 : m.sg = sg
      · rw [if_pos (.inr h2), if_pos h2, h2]
        split <;> rfl
      · rw [if_neg (fun q => q.elim h h2), if_neg h2]
        rfl
def hasM (k : Int) (l : List Mk) : Bool := l.any fun m => m.sg == k
/-- a piece is shown with one sign for all, or its own ones -/
def mixM (c : List Mk) : List Int := c.map fun m => if (hasM 45 c && hasM 43 c) = true then 33 else m.sg
theorem anyS_chg (sg : Int) (l : List Mk) : anyS sg l = hasM sg (chgM l) := by
  induction l with
  | nil => rfl
  | cons m l ih =>
    simp only [anyS, chgM, List.takeWhile_cons]
    by_cases h : m.sg = 32
    · rw [if_pos h]
      have : (m.sg != 32) = false := by simp [h]
      rw [this]
      rfl
    · rw [if_neg h, ih]
      have : (m.sg != 32) = true := by simp [h]
      rw [this]
      simp only [hasM, if_true, List.any_cons, chgM]
      rfl
/-- what is shown behind a piece -/
def tlM : List Mk → List Int
  | [] => []
  | _ :: t => 32 :: shwL false false t
theorem shw_piece (l : List Mk) : ∀ r a, shwL r a l = (chgM l).map (fun m => if ((r || hasM 45 (chgM l)) && (a || hasM 43 (chgM l))) = true then 33 else m.sg) ++ tlM (rstM l) := by
  induction l with
  | nil => intro r a; rfl
  | cons m l ih =>
    intro r a
    by_cases h : m.sg = 32
    · have h1 : (m.sg != 32) = false := by simp [h]
      have e1 : chgM (m :: l) = [] := by simp only [chgM, List.takeWhile_cons, h1]; rfl
      have e2 : rstM (m :: l) = m :: l := by simp only [rstM, List.dropWhile_cons, h1]; rfl
      rw [e1, e2]
      simp only [shwL]
      rw [if_pos h]
      rfl
    · have h1 : (m.sg != 32) = true := by simp [h]
      have e1 : chgM (m :: l) = m :: chgM l := by simp only [chgM, List.takeWhile_cons, h1]; rfl
      have e2 : rstM (m :: l) = rstM l := by simp only [rstM, List.dropWhile_cons, h1]; rfl
      simp only [shwL]
      rw [if_neg h, anyS_chg 45, anyS_chg 43, ih, e1, e2]
      have q : ∀ k : Int, hasM k (m :: chgM l) = (decide (m.sg = k) || hasM k (chgM l)) := fun k => by
        simp only [hasM, List.any_cons]
        rfl
      rw [q, q]
      simp only [List.map_cons, List.cons_append, Bool.or_assoc]
theorem shw_step (l : List Mk) : shwL false false l = mixM (chgM l) ++ tlM (rstM l) := by
  rw [shw_piece]
  simp only [Bool.false_or]
  rfl
theorem chg_rstM (l : List Mk) : chgM l ++ rstM l = l := List.takeWhile_append_dropWhile
end Go.Proofs.YtgcccpmcbjfaaaaDoor

/- slices.IndexFunc, slices.ContainsFunc for a function value that may hold a variable; the code's isKept, has, piece of layer 15, walked. -/
namespace Go.Proofs.YtgcccpmcbjfaaaaDoor
open Ln Go.RowKit

/-- where the first one is, or -1 -/
def idxI (p : Mk → Bool) : Nat → List Mk → Int
  | _, [] => -1
  | k, m :: l => if p m = true then (k : Int) else idxI p (k + 1) l
theorem idxI_any (p : Mk → Bool) (l : List Mk) : ∀ k, decide (0 ≤ idxI p k l) = l.any p := by
  induction l with
  | nil => intro k; rfl
  | cons m l ih =>
    intro k
    rw [List.any_cons]
    by_cases h : p m = true
    · have e : idxI p k (m :: l) = (k : Int) := if_pos h
      rw [e, h]
      simp
    · have e : idxI p k (m :: l) = idxI p (k + 1) l := if_neg h
      rw [e, ih, Bool.eq_false_iff.2 h]
      rfl
theorem chgM_ne {m : Mk} {l : List Mk} (h : m.sg ≠ 32) : chgM (m :: l) = m :: chgM l ∧ rstM (m :: l) = rstM l := by
  have h1 : (m.sg != 32) = true := by simp [h]
  constructor
  · simp only [chgM, List.takeWhile_cons, h1]; rfl
  · simp only [rstM, List.dropWhile_cons, h1]; rfl
theorem chgM_eq {m : Mk} {l : List Mk} (h : m.sg = 32) : chgM (m :: l) = [] ∧ rstM (m :: l) = m :: l := by
  have h1 : (m.sg != 32) = false := by simp [h]
  constructor
  · simp only [chgM, List.takeWhile_cons, h1]; rfl
  · simp only [rstM, List.dropWhile_cons, h1]; rfl
theorem idxI_chg (l : List Mk) : ∀ k, idxI (fun m => m.sg == 32) k l = if rstM l = [] then -1 else (k : Int) + (chgM l).length := by
  induction l with
  | nil => intro k; rfl
  | cons m l ih =>
    intro k
    by_cases h : m.sg = 32
    · have e : idxI (fun m => m.sg == 32) k (m :: l) = (k : Int) := if_pos (by simp [h])
      rw [e, (chgM_eq h).1, (chgM_eq h).2, if_neg (by simp)]
      simp
    · have e : idxI (fun m => m.sg == 32) k (m :: l) = idxI (fun m => m.sg == 32) (k + 1) l := if_neg (by simp [h])
      rw [e, ih, (chgM_ne h).1, (chgM_ne h).2]
      by_cases hq : rstM l = []
      · rw [if_pos hq, if_pos hq]
      · rw [if_neg hq, if_neg hq]
        simp only [List.length_cons]; omega
theorem idxI_drop {p : Mk → Bool} {l : List Mk} {k : Nat} (hk : k < l.length) : idxI p k (l.drop k) = if p l[k] = true then (k : Int) else idxI p (k + 1) (l.drop (k + 1)) := by
  rw [List.drop_eq_getElem_cons hk]
  rfl
set_option maxRecDepth 10000 in
set_option maxHeartbeats 2000000 in
theorem cIdx_f (g : Nat) (cap : Array Value) (l : List Mk) (p : Mk → Bool) (v : Value) (w : World) (hv : HMk w v l) (hl : l.length ≤ 1099511627776) (eg : ∀ args w, (callFunc g args).run Tryd.prog w = .ok (.enter g args) w)
    (hf : Hid (∀ m ∈ l, ∀ u : World, Below w.heap.size w u → Calls Tryd.prog g (#[.agg #[.int .u8 m.sg, .string ⟨m.tx.toArray⟩]] ++ cap) u fun e u' => e = .returned (.bool (p m)) ∧ Below u.heap.size u u')) (z : Int) (HR : Hid (idxI p 0 l = z)) :
    Calls Tryd.prog 49 #[v, .func (.func g) #[] cap] w fun e w' => e = .returned (.int .i64 z) ∧ Below w.heap.size w w' := by
  obtain ⟨lo, lc, rfl⟩ := HMk.form hv
  go_enter Tryd.func49, Tryd.ntmps49
  go_wp2
  go_loopw [5, 8] (fun _ i wr => ∃ k : Nat, k ≤ l.length ∧ i = .int .i64 k ∧ Below w.heap.size w wr ∧ Hid (idxI p k (l.drop k) = z)) (fun _ i _ => l.length - (intOf i).toNat)
  case atStart => exact ⟨0, Nat.zero_le _, rfl, Below.refl _ _, HR⟩
  case round =>
    obtain ⟨k, hk, rfl, hB, HI⟩ := hrel
    clear HR
    by_cases hlt : k < l.length
    · obtain ⟨b, off, rfl, hb, _⟩ := HMk.at hv (by omega)
      obtain ⟨m, hm⟩ : ∃ m, l[k] = m := ⟨_, rfl⟩
      obtain ⟨c0, c1⟩ := Low.mk hB hv k hlt hm
      have hc := hf.out m (by rw [← hm]; exact List.getElem_mem hlt) wr hB
      have i1 : 0 ≤ (k : Int) := by omega
      have i2 : (k : Int) < (l.length : Int) := by omega
      have HI2 : Hid ((if p m = true then (k : Int) else idxI p (k + 1) (l.drop (k + 1))) = z) := (by
        have h := HI.out
        rw [idxI_drop hlt, hm] at h
        exact h)
      obtain ⟨q, hq⟩ : ∃ q, p m = q := ⟨_, rfl⟩
      rw [hq] at hc HI2
      clear HI hm hq
      cases q with
      | true =>
        have HE : Hid ((k : Int) = z) := (by have h := HI2.out; rw [if_pos rfl] at h; exact h)
        clear HI2
        go_wp2_with (go_at_fn g; refine hc.mono ?_; rintro e w' ⟨rfl, hB1⟩)
        go_ret
        exact ⟨by rw [HE.out]; rfl, hB.trans (hB1.mono hB.size)⟩
      | false =>
        have HE : Hid (idxI p (k + 1) (l.drop (k + 1)) = z) := (by have h := HI2.out; rw [if_neg (by decide)] at h; exact h)
        clear HI2
        go_wp2_with (go_at_fn g; refine hc.mono ?_; rintro e w' ⟨rfl, hB1⟩)
        exact ⟨⟨k + 1, by omega, by go_num, hB.trans (hB1.mono hB.size), HE⟩, by simp [intOf]; omega⟩
    · have HE : Hid (-1 = z) := (by
        have h := HI.out
        rw [List.drop_of_length_le (by omega)] at h
        exact h)
      clear HI
      have hend : decide ((k : Int) < (l.length : Int)) = false := decide_eq_false (by omega)
      go_wp2
      go_ret
      exact ⟨by rw [HE.out]; rfl, hB⟩
set_option maxHeartbeats 1000000 in
theorem cContains_f (g : Nat) (cap : Array Value) (l : List Mk) (p : Mk → Bool) (v : Value) (w : World) (hv : HMk w v l) (hl : l.length ≤ 1099511627776) (eg : ∀ args w, (callFunc g args).run Tryd.prog w = .ok (.enter g args) w)
    (hf : Hid (∀ m ∈ l, ∀ u : World, Below w.heap.size w u → Calls Tryd.prog g (#[.agg #[.int .u8 m.sg, .string ⟨m.tx.toArray⟩]] ++ cap) u fun e u' => e = .returned (.bool (p m)) ∧ Below u.heap.size u u')) (r : Bool) (HR : Hid (l.any p = r)) :
    Calls Tryd.prog 34 #[v, .func (.func g) #[] cap] w fun e w' => e = .returned (.bool r) ∧ Below w.heap.size w w' := by
  obtain ⟨z, hz⟩ : ∃ z, idxI p 0 l = z := ⟨_, rfl⟩
  have HC := cIdx_f g cap l p v w hv hl eg hf z hz
  have HZ : Hid (decide (0 ≤ z) = r) := (by show _ = _; rw [← hz, idxI_any]; exact HR.out)
  clear hz HR
  obtain ⟨lo, lc, rfl⟩ := HMk.form hv
  go_enter Tryd.func34, Tryd.ntmps34
  go_wp2_with fail
  refine HC.mono ?_
  rintro e w1 ⟨rfl, hB⟩
  go_wp2
  go_ret
  exact ⟨by rw [HZ.out]; rfl, hB⟩
/-- the lines at the front that are not kept, as a slice of the same row -/
theorem chg_take (l : List Mk) : l.take (chgM l).length = chgM l := by
  have h := chg_rstM l
  have h2 : (chgM l ++ rstM l).take (chgM l).length = chgM l := List.take_left
  rw [h] at h2
  exact h2
theorem chg_le (l : List Mk) : (chgM l).length ≤ l.length := by
  have h := congrArg List.length (chg_rstM l)
  rw [List.length_append] at h
  omega
theorem rst_nil {l : List Mk} (h : rstM l = []) : chgM l = l := by
  have h1 := chg_rstM l
  rw [h, List.append_nil] at h1
  exact h1
/-- l[:k], l[k:] of a slice of lines with signs -/
def mslF (ao : Option Addr) (cap k : Nat) : Option Addr := if cap = k then ao else ao.map (·.add (k * 2))
theorem run_mF (ao : Option Addr) (n cap k : Nat) (hk : k ≤ n) (_ : n ≤ cap) (u : World) : (Instr.slice 42 (.slice ao n cap) (some (.int .i64 (k : Int))) none none).run Tryd.prog u = .ok (.slice (mslF ao cap k) (n - k) (cap - k)) u := by
  rw [run_slice_l (P := Tryd.prog) u 42 ao n cap (by kernel_rfl) .i64 k (by omega) (by omega)]
  have : (sizeOf (Tryd.prog.elem 42)).run Tryd.prog u = .ok 2 u := by kernel_rfl
  rw [this]
  simp [Result.andThen, sliced, mslF]
theorem maddr_zero (ad : Addr) : ad.add 0 = ad := by unfold Addr.add; split <;> simp_all
theorem run_mT (ao : Option Addr) (n cap k : Nat) (hk : k ≤ n) (hn : n ≤ cap) (u : World) : (Instr.slice 42 (.slice ao n cap) none (some (.int .i64 (k : Int))) none).run Tryd.prog u = .ok (.slice ao k cap) u := by
  rw [run_slice_h (P := Tryd.prog) u 42 ao n cap (by kernel_rfl) .i64 k (by omega) (by omega)]
  have : (sizeOf (Tryd.prog.elem 42)).run Tryd.prog u = .ok 2 u := by kernel_rfl
  rw [this]
  cases ao with
  | none => simp [Result.andThen, sliced]
  | some ad => simp [Result.andThen, sliced, maddr_zero]
theorem mhold_cap {w : World} {ao : Option Addr} {n c : Nat} {xs : List Value} (h : Holds w (.slice ao n c) n xs) : n ≤ c := by
  rcases h with ⟨h, h0, _⟩ | ⟨ad, c', h, h3, _⟩
  · omega
  · cases h; exact h3
theorem mkcells_take (l : List Mk) (k : Nat) : (mkcells l).take (k * 2) = mkcells (l.take k) := by
  induction k generalizing l with
  | zero => simp [mkcells]
  | succ k ih =>
    cases l with
    | nil => simp [mkcells]
    | cons m l =>
      have e : (k + 1) * 2 = k * 2 + 1 + 1 := by omega
      have h1 : mkcells (m :: l) = .int .u8 m.sg :: .string ⟨m.tx.toArray⟩ :: mkcells l := rfl
      have h2 : mkcells ((m :: l).take (k + 1)) = .int .u8 m.sg :: .string ⟨m.tx.toArray⟩ :: mkcells (l.take k) := rfl
      rw [e, h1, h2, List.take_succ_cons, List.take_succ_cons, ih]
theorem mkcells_drop (l : List Mk) (k : Nat) : (mkcells l).drop (k * 2) = mkcells (l.drop k) := by
  induction k generalizing l with
  | zero => simp
  | succ k ih =>
    cases l with
    | nil => simp [mkcells]
    | cons m l =>
      have e : (k + 1) * 2 = k * 2 + 1 + 1 := by omega
      have h1 : mkcells (m :: l) = .int .u8 m.sg :: .string ⟨m.tx.toArray⟩ :: mkcells l := rfl
      rw [e, h1, List.drop_succ_cons, List.drop_succ_cons, ih]
      rfl
theorem mk_to {w : World} {ao : Option Addr} {c : Nat} {l : List Mk} (h : HMk w (.slice ao l.length c) l) (k : Nat) (hk : k ≤ l.length) : HMk w (.slice ao k c) (l.take k) := by
  have hlt : (l.take k).length = k := by rw [List.length_take]; omega
  unfold HMk at h ⊢
  rw [hlt]
  rcases h with ⟨h, h0, h4⟩ | ⟨ad, c', h, h3, hc⟩
  · have hl0 : l = [] := List.eq_nil_of_length_eq_zero h0
    subst hl0
    cases h
    have hk0 : k = 0 := by simpa using hk
    subst hk0
    exact .inl ⟨by simp, rfl, by simp [mkcells]⟩
  · cases h
    refine .inr ⟨ad, c, rfl, by omega, fun j v hj => hc j v ?_⟩
    rw [← mkcells_take] at hj
    by_cases hjk : j < k * 2
    · rw [List.getElem?_take_of_lt hjk] at hj
      exact hj
    · rw [List.getElem?_eq_none (by simp; omega)] at hj
      cases hj
theorem mk_from {w : World} {ao : Option Addr} {c : Nat} {l : List Mk} (h : HMk w (.slice ao l.length c) l) (k : Nat) (hk : k ≤ l.length) : HMk w (.slice (mslF ao c k) (l.length - k) (c - k)) (l.drop k) := by
  have hlt : (l.drop k).length = l.length - k := by rw [List.length_drop]
  have hnc := mhold_cap h
  unfold HMk at h ⊢
  rw [hlt]
  rcases h with ⟨h, h0, h4⟩ | ⟨ad, c', h, h3, hc⟩
  · have hl0 : l = [] := List.eq_nil_of_length_eq_zero h0
    subst hl0
    cases h
    have hk0 : k = 0 := by simpa using hk
    subst hk0
    exact .inl ⟨by simp [mslF], rfl, by simp [mkcells]⟩
  · cases h
    refine .inr ⟨if c = k then ad else ad.add (k * 2), c - k, by unfold mslF; split <;> simp, by omega, fun j v hj => ?_⟩
    rw [← mkcells_drop, List.getElem?_drop] at hj
    have hlt2 := (List.getElem?_eq_some_iff.1 hj).1
    rw [mkcells_length] at hlt2
    rw [if_neg (by omega)]
    have h0 := hc 0 _ (List.getElem?_eq_getElem (by rw [mkcells_length]; omega))
    obtain ⟨b, off, rfl⟩ := addr_of h0
    have := hc _ _ hj
    rw [add_none] at this
    rw [add_none, add_none, Nat.add_assoc]
    exact this
end Go.Proofs.YtgcccpmcbjfaaaaDoor

/- Names as the code writes them in a patch (layer 15), walked. -/
namespace Go.Proofs.YtgcccpmcbjfaaaaDoor
open Go.RowKit
attribute [local go_sem] ByteArray.extract_mk

def oddI (r : Int) : Bool := decide (r < 33) || decide (126 < r) || decide (r = 34)
set_option maxHeartbeats 1000000 in
theorem cisOdd_f (r : Int) (w : World) (q : Bool) (HQ : Hid (oddI r = q)) : Calls Tryd.prog 40 #[.int .i32 r] w fun e w' => e = .returned (.bool q) ∧ w = w' := by
  by_cases h1 : r < 33
  · have HE : Hid (true = q) := (by show _ = _; rw [← HQ.out]; simp [oddI, h1])
    go_enter Tryd.func40, Tryd.ntmps40
    go_wp2
    go_ret
    exact ⟨by rw [← HE.out]; rfl, rfl⟩
  · by_cases h2 : 126 < r
    · have HE : Hid (true = q) := (by show _ = _; rw [← HQ.out]; simp [oddI, h2])
      go_enter Tryd.func40, Tryd.ntmps40
      go_wp2
      go_ret
      exact ⟨by rw [← HE.out]; rfl, rfl⟩
    · have HE : Hid ((r == 34) = q) := (by show _ = _; rw [← HQ.out]; simp only [oddI, h1, h2, decide_false, Bool.false_or]; rfl)
      go_enter Tryd.func40, Tryd.ntmps40
      go_wp2
      go_ret
      exact ⟨by rw [← HE.out]; rfl, rfl⟩
theorem odd_name (c : UInt8) : oddI (c.toNat : Int) = !nameC c := by
  unfold oddI nameC
  rw [Bool.eq_iff_iff]
  simp only [Bool.or_eq_true, decide_eq_true_eq, Bool.not_eq_true', decide_eq_false_iff_not]
  omega
/-- where the first odd byte is, or -1 -/
def oddW : Nat → List UInt8 → Int
  | _, [] => -1
  | k, c :: l => if nameC c = true then oddW (k + 1) l else (k : Int)
theorem oddW_all (l : List UInt8) : ∀ k, decide (0 ≤ oddW k l) = !l.all nameC := by
  induction l with
  | nil => intro k; rfl
  | cons c l ih =>
    intro k
    rw [List.all_cons]
    by_cases h : nameC c = true
    · have e : oddW k (c :: l) = oddW (k + 1) l := if_pos h
      rw [e, ih, h]
      rfl
    · have e : oddW k (c :: l) = (k : Int) := if_neg h
      rw [e, Bool.eq_false_iff.2 h]
      simp
theorem oddW_step {l : List UInt8} {k : Nat} (hk : k < l.length) : oddW k (l.drop k) = if nameC l[k] = true then oddW (k + 1) (l.drop (k + 1)) else (k : Int) := by
  rw [List.drop_eq_getElem_cons hk]
  rfl
set_option maxHeartbeats 4000000 in
set_option maxRecDepth 100000 in
theorem cindexFunc_f (l : List UInt8) (w : World) (_hl : l.length ≤ 1099511627776) (z : Int) (HZ : Hid (oddW 0 l = z)) :
    Calls Tryd.prog 61 #[.string ⟨l.toArray⟩, .func (.func 40) #[] #[], .bool true] w fun e w' => e = .returned (.int .i64 z) ∧ Below w.heap.size w w' := by
  go_enter Tryd.func61, Tryd.ntmps61
  go_wp2
  go_loopw [] (fun wr => ∃ pos : Nat, pos ≤ l.length ∧ wr.heap[w.heap.size]? = some (.stringIter ⟨l.toArray⟩ pos) ∧ Below w.heap.size w wr ∧ Hid (oddW pos (l.drop pos) = z)) (fun wr => l.length - wr.iterPos w.heap.size)
  case atStart => exact ⟨0, Nat.zero_le _, World.iter_heap w _ 0, (Below.refl _ w).alloc (Nat.le_refl _) _, HZ⟩
  case round =>
    obtain ⟨pos, hp, hit, hbr, HA⟩ := hrel
    have hwl : w.heap.size < wr.heap.size := (Array.getElem?_eq_some_iff.1 hit).1
    by_cases hlt : pos < l.length
    · have HS := HA.out
      rw [oddW_step hlt] at HS
      by_cases ha : l[pos].toNat < 128
      · have hnx : ∀ ty, (Instr.next (.pointer (some ⟨w.heap.size, 0, none⟩)) true ty).run Tryd.prog wr = _ := fun ty => Lib.run_next_ascii_at wr w.heap.size ⟨l.toArray⟩ pos ty hit hlt ha
        have hit2 := Lib.iterAt_heap wr w.heap.size ⟨l.toArray⟩ pos (pos + 1) hit
        have hbr2 := Lib.below_iterAt hbr (k := w.heap.size) (Nat.le_refl _) ⟨l.toArray⟩ (pos + 1)
        cases hn : nameC l[pos] with
        | true =>
          have HI : Hid (oddW (pos + 1) (l.drop (pos + 1)) = z) := (by rw [hn, if_pos rfl] at HS; exact HS)
          have hc := fun u => cisOdd_f (l[pos].toNat : Int) u false (by show _ = _; rw [odd_name, hn]; rfl)
          clear HS hn HA
          go_wp2_with fail
          refine (hc _).mono ?_
          rintro e w4 ⟨rfl, rfl⟩
          go_wp2
          go_roundw
          case rel => exact ⟨pos + 1, by omega, hit2, hbr2, HI⟩
          case measure => simp only [World.iterPos, hit, hit2]; omega
        | false =>
          have HE : Hid ((pos : Int) = z) := (by rw [hn, if_neg (by decide)] at HS; exact HS)
          have hc := fun u => cisOdd_f (l[pos].toNat : Int) u true (by show _ = _; rw [odd_name, hn]; rfl)
          clear HS hn HA
          go_wp2_with fail
          refine (hc _).mono ?_
          rintro e w4 ⟨rfl, rfl⟩
          go_wp2
          go_ret
          exact ⟨by rw [HE.out]; rfl, hbr2⟩
      · have hdh := (decode_high ⟨l.toArray⟩ pos hlt (by show 128 ≤ l[pos].toNat; omega))
        have hnx : ∀ ty, (Instr.next (.pointer (some ⟨w.heap.size, 0, none⟩)) true ty).run Tryd.prog wr = _ := fun ty => Lib.run_next_any_at wr w.heap.size ⟨l.toArray⟩ pos ty hit hlt
        have hbr2 := Lib.below_iterAt hbr (k := w.heap.size) (Nat.le_refl _) ⟨l.toArray⟩ (pos + (Utf8.decode ⟨l.toArray⟩ pos).2)
        have hdl := decode_le ⟨l.toArray⟩ pos
        have HE : Hid ((pos : Int) = z) := (by
          have hn : nameC l[pos] = false := (by unfold nameC; exact decide_eq_false (by omega))
          rw [hn, if_neg (by decide)] at HS
          exact HS)
        obtain ⟨hd1, hd2⟩ := hdh
        generalize Utf8.decode ⟨l.toArray⟩ pos = dd at *
        have hc := fun u => cisOdd_f (dd.1 : Int) u true (by
          show _ = _
          unfold oddI
          have : decide (126 < (dd.1 : Int)) = true := decide_eq_true (by omega)
          rw [this]
          simp)
        clear HS HA
        go_wp2_with fail
        refine (hc _).mono ?_
        rintro e w4 ⟨rfl, rfl⟩
        go_wp2
        go_ret
        exact ⟨by rw [HE.out]; rfl, hbr2⟩
    · have hnx : ∀ ty, (Instr.next (.pointer (some ⟨w.heap.size, 0, none⟩)) true ty).run Tryd.prog wr = _ := fun ty => Lib.run_next_end_at wr w.heap.size ⟨l.toArray⟩ pos ty hit hlt
      have HE : Hid (-1 = z) := (by
        have h := HA.out
        rw [List.drop_of_length_le (by omega)] at h
        exact h)
      clear HA
      go_wp2
      go_ret
      exact ⟨by rw [HE.out]; rfl, hbr⟩
set_option maxHeartbeats 1000000 in
theorem cIndexFunc_f (l : List UInt8) (w : World) (hl : l.length ≤ 1099511627776) (z : Int) (HZ : Hid (oddW 0 l = z)) :
    Calls Tryd.prog 51 #[.string ⟨l.toArray⟩, .func (.func 40) #[] #[]] w fun e w' => e = .returned (.int .i64 z) ∧ Below w.heap.size w w' := by
  go_enter Tryd.func51, Tryd.ntmps51
  go_wp2_with fail
  refine (cindexFunc_f l w hl z HZ).mono ?_
  rintro e w1 ⟨rfl, hB⟩
  go_wp2
  go_ret
  exact ⟨rfl, hB⟩
set_option maxHeartbeats 1000000 in
theorem cContainsFunc_f (l : List UInt8) (w : World) (hl : l.length ≤ 1099511627776) (q : Bool) (HQ : Hid ((!l.all nameC) = q)) :
    Calls Tryd.prog 39 #[.string ⟨l.toArray⟩, .func (.func 40) #[] #[]] w fun e w' => e = .returned (.bool q) ∧ Below w.heap.size w w' := by
  obtain ⟨z, hz⟩ : ∃ z, oddW 0 l = z := ⟨_, rfl⟩
  have HC := cIndexFunc_f l w hl z hz
  have HZ : Hid (decide (0 ≤ z) = q) := (by show _ = _; rw [← hz, oddW_all]; exact HQ.out)
  clear hz HQ
  go_enter Tryd.func39, Tryd.ntmps39
  go_wp2_with fail
  refine HC.mono ?_
  rintro e w1 ⟨rfl, hB⟩
  go_wp2
  go_ret
  exact ⟨by rw [HZ.out]; rfl, hB⟩
set_option maxHeartbeats 2000000 in
theorem cname_f (l : List UInt8) (w : World) (hl : l.length ≤ 1099511627776) (t : List UInt8) (HT : Hid (nameT l = t)) :
    Calls Tryd.prog 22 #[.string ⟨l.toArray⟩] w fun e w' => e = .returned (.string ⟨t.toArray⟩) ∧ Below w.heap.size w w' := by
  by_cases h0 : l = []
  · have HE : Hid (devN = t) := (by have h := HT.out; unfold nameT at h; rw [if_pos h0] at h; exact h)
    subst h0
    go_enter Tryd.func22, Tryd.ntmps22
    go_wp2
    go_ret
    exact ⟨by rw [← HE.out]; rfl, Below.refl _ _⟩
  · have e0 : l.isEmpty = false := (by cases l with | nil => exact absurd rfl h0 | cons _ _ => rfl)
    have hq := Quote_any l
    by_cases h1 : l = devN
    · have HE : Hid (Q.quote l = t) := (by have h := HT.out; unfold nameT at h; rw [if_neg h0, if_neg (fun q => q.2 h1)] at h; exact h)
      have e1 : (l == [47, 100, 101, 118, 47, 110, 117, 108, 108]) = true := (by rw [beq_iff_eq]; exact h1)
      clear HT h1
      go_enter Tryd.func22, Tryd.ntmps22
      go_wp2_with fail
      refine (hq _ hl).mono ?_
      rintro e w1 ⟨rfl, hB⟩
      go_wp2
      go_ret
      exact ⟨by rw [← HE.out]; rfl, hB⟩
    · have e1 : (l == [47, 100, 101, 118, 47, 110, 117, 108, 108]) = false := beq_eq_false_iff_ne.2 h1
      cases hn : l.all nameC with
      | true =>
        have HE : Hid (l = t) := (by have h := HT.out; unfold nameT at h; rw [if_neg h0, if_pos ⟨hn, h1⟩] at h; exact h)
        have hc := fun u => cContainsFunc_f l u hl false (by show _ = _; rw [hn]; rfl)
        clear HT h1 hn
        go_enter Tryd.func22, Tryd.ntmps22
        go_wp2_with fail
        refine (hc _).mono ?_
        rintro e w1 ⟨rfl, hB⟩
        go_wp2
        go_ret
        exact ⟨by rw [← HE.out]; rfl, hB⟩
      | false =>
        have HE : Hid (Q.quote l = t) := (by have h := HT.out; unfold nameT at h; rw [if_neg h0, if_neg (fun q => by rw [hn] at q; cases q.1)] at h; exact h)
        have hc := fun u => cContainsFunc_f l u hl true (by show _ = _; rw [hn]; rfl)
        clear HT h1 hn
        go_enter Tryd.func22, Tryd.ntmps22
        go_wp2_with fail
        refine (hc _).mono ?_
        rintro e w1 ⟨rfl, hB⟩
        go_wp2_with fail
        refine (hq _ hl).mono ?_
        rintro e w2 ⟨rfl, hB2⟩
        go_wp2
        go_ret
        exact ⟨by rw [← HE.out]; rfl, hB.trans (hB2.mono hB.size)⟩
end Go.Proofs.YtgcccpmcbjfaaaaDoor
