/-
  Texts that belong together, joined: UrE, PrB.
-/
import Derived.Test.YtgiojkhmkeocfaaGreatDoorUnpA10
import Derived.Test.YtgiojkhmkeocfaaGreatDoorUnpA8
import Derived.Deep.CutBlock

/- The reference's hunk of layer 16, walked. -/
set_option maxRecDepth 20000
namespace Go.Proofs.YtgiojkhmkeocfaaGreatDoor
open Go.RowKit Go.Proofs.YtgiojkhmkeocfaaGreatDoor.Tx
attribute [local go_sem] ByteArray.extract_mk no_at

theorem nxt_st {L r : List (List UInt8)} {p : Nat} {s : List UInt8} (hs : ∀ s ∈ L, s.length ≤ 1099511627776) (h : nxt p (L.drop p) = .ok (s, r)) : s.length ≤ 1099511627776 ∧ r = L.drop (p + 1) ∧ p < L.length := by
  obtain ⟨h1, h2, _, h4⟩ := nxt_rest h
  refine ⟨?_, h1, h2⟩
  have := hs L[p] (List.getElem_mem h2)
  rw [h4, List.length_append] at this
  omega
theorem r6line_f {R : Nat} {L : List (List UInt8)} {lo : Option Addr} {lc p : Nat} (a b : Nat) (w : World) (q : RdZ w R (.slice lo L.length lc) (.ok p)) (HLs : Hid (∀ u, w.grownBy u (some R) → HS u (.slice lo L.length lc) L)) (hR : ∀ a, lo = some a → a.block ≠ R) (hp : p ≤ L.length) (hLl : L.length ≤ 137438953472) (hs : ∀ s ∈ L, s.length ≤ 1099511627776) (ha : a ≤ 2147483647) (hb : b ≤ 2147483647)
    (X : Except (Nat × Int) (Mk × Nat × List (List UInt8))) (HX : Hid (ulnP a b p (L.drop p) = X)) :
    Calls Tryz.prog 120 #[.pointer (some ⟨R, 0, none⟩), .int .i64 (a : Int), .int .i64 (b : Int)] w fun e w' => LnQ6 R (.slice lo L.length lc) a b X w e w' := by
  have hRl := q.lt
  obtain ⟨W0, hW0⟩ : ∃ u, w.alloc (.cells #[.int .u8 0, .string ⟨#[]⟩] 103) = u := ⟨_, rfl⟩
  have hB0 : Below w.heap.size w W0 := (by rw [← hW0]; exact (Below.refl _ w).alloc (Nat.le_refl _) _)
  have hM0 : Ml w R (.slice lo L.length lc) (.ok p) W0 := ⟨low_grown hB0 _, by rw [← hW0]; exact heap_alloc_new w _, q.low hB0, hRl⟩
  have hX := HX.out
  unfold ulnP at hX
  obtain ⟨Y, hY⟩ : ∃ Y, nxt p (L.drop p) = Y := ⟨_, rfl⟩
  rw [hY] at hX
  cases Y with
  | error z =>
    have hn := gNext_f W0 hM0.rd (HLs.out _ hM0.gr) hR (fun p' e => by cases e; omega) hs (.error z) (by unfold nxZ; dsimp only; rw [hY])
    have hn2 := hn.mono (R' := fun x w' => x = .returned (.string ⟨#[]⟩) ∧ Ml w R (.slice lo L.length lc) (.error z) w') (by rintro x w' ⟨⟨rfl, q1⟩, g1⟩; exact ⟨rfl, hM0.call g1 q1⟩)
    refine (rline_b0 a b w W0 hW0 ha hb hn2).mono ?_
    rintro e w' ⟨rfl, q2, g2⟩
    rw [← hX]
    exact ⟨rfl, q2, g2⟩
  | ok y =>
    obtain ⟨s, r⟩ := y
    obtain ⟨hsl, rfl, hpl⟩ := nxt_st hs hY
    have hn := gNext_f W0 hM0.rd (HLs.out _ hM0.gr) hR (fun p' e => by cases e; omega) hs (.ok (s, p + 1)) (by unfold nxZ; dsimp only; rw [hY])
    have hn2 := hn.mono (R' := fun x w' => x = .returned (.string ⟨s.toArray⟩) ∧ Ml w R (.slice lo L.length lc) (.ok (p + 1)) w') (by rintro x w' ⟨⟨rfl, q1⟩, g1⟩; exact ⟨rfl, hM0.call g1 q1⟩)
    cases s with
    | nil =>
      refine (rline_b0 a b w W0 hW0 ha hb hn2).mono ?_
      rintro e w' ⟨rfl, q2, g2⟩
      rw [← hX]
      exact ⟨rfl, q2, g2⟩
    | cons c t =>
      dsimp only at hX
      cases hc : okC c with
      | false =>
        rw [if_neg (by rw [hc]; simp)] at hX
        refine (rline_b1 a b w W0 hW0 c t hc ha hb hn2).mono ?_
        rintro e w' ⟨rfl, q2, g2⟩
        rw [← hX]
        exact ⟨rfl, q2, g2⟩
      | true =>
        have ht : t.length ≤ 1099511627776 := (by simp only [List.length_cons] at hsl; omega)
        obtain ⟨mk, hmk⟩ : ∃ mk, pkM (L.drop (p + 1)) = mk := ⟨_, rfl⟩
        have HMk : Hid (pkZ markT L (.ok (p + 1)) = mk) := (by show pkG markT _ = _; rw [← hmk]; cases L.drop (p + 1) <;> rfl)
        rw [hmk] at hX
        rcases okc_cases hc with rfl | rfl | rfl
        · by_cases hgd : 1 ≤ a ∧ 1 ≤ b
          · rw [if_pos ⟨rfl, hgd.1, hgd.2⟩] at hX
            obtain ⟨⟨tx, p1⟩, hz⟩ : ∃ z : List UInt8 × Nat, z = if (((a - 1 == 0) && (b - 1 == 0)) && (!t.isEmpty && mk)) = true then (t, p + 1 + 1) else (t ++ [10], p + 1) := ⟨_, rfl⟩
            have hXe : ∃ r2, X = .ok (⟨((32 : UInt8).toNat : Int), tx⟩, p1, r2) := (by
              by_cases hq : (((a - 1 == 0) && (b - 1 == 0)) && (!t.isEmpty && mk)) = true
              · rw [if_pos hq] at hz
                cases hz
                rw [if_pos (by
                  simp only [Bool.and_eq_true, Bool.not_eq_true', List.isEmpty_eq_false_iff] at hq
                  refine ⟨?_, hq.2.1, hq.2.2⟩
                  simpa [uendB, tkO, tkN] using hq.1)] at hX
                exact ⟨_, hX.symm⟩
              · rw [if_neg hq] at hz
                cases hz
                rw [if_neg (by
                  rintro ⟨x1, x2, x3⟩
                  refine hq ?_
                  simp only [Bool.and_eq_true, Bool.not_eq_true', List.isEmpty_eq_false_iff]
                  refine ⟨?_, x2, x3⟩
                  simpa [uendB, tkO, tkN] using x1)] at hX
                exact ⟨_, hX.symm⟩)
            obtain ⟨r2, hXe⟩ := hXe
            refine (rline_g32 a b t w W0 hW0 HLs (by omega) hs ht hgd.1 hgd.2 ha hb mk HMk tx p1 hz hn2).mono ?_
            rintro e w' ⟨rfl, q2, g2⟩
            rw [hXe]
            exact ⟨rfl, q2, g2⟩
          · rw [if_neg (by rintro ⟨_, x2, x3⟩; exact hgd ⟨x2, x3⟩)] at hX
            by_cases ha0 : a = 0
            · refine (rline_b2 a b w W0 hW0 t ha0 ha hb hn2).mono ?_
              rintro e w' ⟨rfl, q2, g2⟩
              rw [← hX]
              exact ⟨rfl, q2, g2⟩
            · refine (rline_b3 a b w W0 hW0 t (by omega) (by omega) ha hb hn2).mono ?_
              rintro e w' ⟨rfl, q2, g2⟩
              rw [← hX]
              exact ⟨rfl, q2, g2⟩
        · by_cases hgd : 1 ≤ a
          · rw [if_pos ⟨rfl, hgd, Nat.zero_le _⟩] at hX
            obtain ⟨⟨tx, p1⟩, hz⟩ : ∃ z : List UInt8 × Nat, z = if ((a - 1 == 0) && (!t.isEmpty && mk)) = true then (t, p + 1 + 1) else (t ++ [10], p + 1) := ⟨_, rfl⟩
            have hXe : ∃ r2, X = .ok (⟨((45 : UInt8).toNat : Int), tx⟩, p1, r2) := (by
              by_cases hq : ((a - 1 == 0) && (!t.isEmpty && mk)) = true
              · rw [if_pos hq] at hz
                cases hz
                rw [if_pos (by
                  simp only [Bool.and_eq_true, Bool.not_eq_true', List.isEmpty_eq_false_iff] at hq
                  refine ⟨?_, hq.2.1, hq.2.2⟩
                  simpa [uendB, tkO, tkN] using hq.1)] at hX
                exact ⟨_, hX.symm⟩
              · rw [if_neg hq] at hz
                cases hz
                rw [if_neg (by
                  rintro ⟨x1, x2, x3⟩
                  refine hq ?_
                  simp only [Bool.and_eq_true, Bool.not_eq_true', List.isEmpty_eq_false_iff]
                  refine ⟨?_, x2, x3⟩
                  simpa [uendB, tkO, tkN] using x1)] at hX
                exact ⟨_, hX.symm⟩)
            obtain ⟨r2, hXe⟩ := hXe
            refine (rline_g45 a b t w W0 hW0 HLs (by omega) hs ht hgd ha hb mk HMk tx p1 hz hn2).mono ?_
            rintro e w' ⟨rfl, q2, g2⟩
            rw [hXe]
            exact ⟨rfl, q2, g2⟩
          · rw [if_neg (by rintro ⟨_, x2, x3⟩; exact hgd x2)] at hX
            refine (rline_b4 a b w W0 hW0 t (by omega) ha hb hn2).mono ?_
            rintro e w' ⟨rfl, q2, g2⟩
            rw [← hX]
            exact ⟨rfl, q2, g2⟩
        · by_cases hgd : 1 ≤ b
          · rw [if_pos ⟨rfl, Nat.zero_le _, hgd⟩] at hX
            obtain ⟨⟨tx, p1⟩, hz⟩ : ∃ z : List UInt8 × Nat, z = if ((b - 1 == 0) && (!t.isEmpty && mk)) = true then (t, p + 1 + 1) else (t ++ [10], p + 1) := ⟨_, rfl⟩
            have hXe : ∃ r2, X = .ok (⟨((43 : UInt8).toNat : Int), tx⟩, p1, r2) := (by
              by_cases hq : ((b - 1 == 0) && (!t.isEmpty && mk)) = true
              · rw [if_pos hq] at hz
                cases hz
                rw [if_pos (by
                  simp only [Bool.and_eq_true, Bool.not_eq_true', List.isEmpty_eq_false_iff] at hq
                  refine ⟨?_, hq.2.1, hq.2.2⟩
                  simpa [uendB, tkO, tkN] using hq.1)] at hX
                exact ⟨_, hX.symm⟩
              · rw [if_neg hq] at hz
                cases hz
                rw [if_neg (by
                  rintro ⟨x1, x2, x3⟩
                  refine hq ?_
                  simp only [Bool.and_eq_true, Bool.not_eq_true', List.isEmpty_eq_false_iff]
                  refine ⟨?_, x2, x3⟩
                  simpa [uendB, tkO, tkN] using x1)] at hX
                exact ⟨_, hX.symm⟩)
            obtain ⟨r2, hXe⟩ := hXe
            refine (rline_g43 a b t w W0 hW0 HLs (by omega) hs ht hgd ha hb mk HMk tx p1 hz hn2).mono ?_
            rintro e w' ⟨rfl, q2, g2⟩
            rw [hXe]
            exact ⟨rfl, q2, g2⟩
          · rw [if_neg (by rintro ⟨_, x2, x3⟩; exact hgd x3)] at hX
            refine (rline_b5 a b w W0 hW0 t (by omega) ha hb hn2).mono ?_
            rintro e w' ⟨rfl, q2, g2⟩
            rw [← hX]
            exact ⟨rfl, q2, g2⟩
/-- a hunk, by states -/
def uhZ (k : Nat) (L : List (List UInt8)) (p : Nat) : Except (Nat × Int) (Hk × Nat) := match uhkP k p (L.drop p) with
  | .error e => .error e
  | .ok (h, p1, _) => .ok (h, p1)
theorem gok16 {L : List (List UInt8)} (hP : Plain L) : GOk uhZ L := by
  intro k p h p1 hh
  unfold uhZ at hh
  cases h1 : uhkP k p (L.drop p) with
  | error e => rw [h1] at hh; cases hh
  | ok z =>
    obtain ⟨h0, p2, r⟩ := z
    rw [h1] at hh
    cases hh
    have := uhk_drop hP h1
    omega
/-- what a hunk's lines come to -/
def outZ (p : Nat) (A AN B BN : Int) (Y : Except (Nat × Int) (List Mk × Nat × List (List UInt8))) : Except (Nat × Int) (Hk × Nat) :=
  match Y with
  | .error e => .error e
  | .ok (l, p1, _) => if smB l = true then .error (p + 1, 50) else .ok (⟨A, AN, B, BN, l⟩, p1)
/-- what is left of a hunk at a state -/
def hSt (p : Nat) (A AN B BN : Int) (L : List (List UInt8)) (X : Except (Nat × Int) (Hk × Nat)) (l : List Mk) (a b : Nat) (ch : Bool) : Except (Nat × Int) Nat → Prop
  | .error e => X = .error e
  | .ok pn => ∃ n, a + b ≤ n ∧ pn ≤ L.length ∧ l.length ≤ pn ∧ ch = !smB l ∧ outZ p A AN B BN (thenM l (urdP n a b pn (L.drop pn))) = X
/-- the state behind a hunk's head -/
def hdS (k : Nat) (r : Bool) (A AN B BN : Int) (st : Except (Nat × Int) Nat) : Except (Nat × Int) Nat := if r = false then flS 3 st else if 4096 ≤ k then flS 9 st else if A = 0 ∧ 0 < AN ∨ B = 0 ∧ 0 < BN then flS 2 st else st
theorem hdS_err (k : Nat) (r : Bool) (A AN B BN : Int) (e : Nat × Int) : hdS k r A AN B BN (.error e) = .error e := by
  unfold hdS
  split
  · rfl
  · split
    · rfl
    · split <;> rfl
theorem hdS_ok {k p : Nat} {r : Bool} {A AN B BN : Int} {L : List (List UInt8)} {s : List UInt8} {X : Except (Nat × Int) (Hk × Nat)} (hn : nxt p (L.drop p) = .ok (s, L.drop (p + 1))) (hp : p < L.length) (hu : uhdP s = if r = true then some (A, AN, B, BN) else none) (hX : uhZ k L p = X) : hSt p A AN B BN L X [] AN.toNat BN.toNat false (hdS k r A AN B BN (.ok (p + 1))) := by
  unfold uhZ uhkP at hX
  rw [hn] at hX
  dsimp only at hX
  unfold hdS
  cases r with
  | false =>
    rw [hu, if_neg (by decide)] at hX
    rw [if_pos rfl]
    exact hX.symm
  | true =>
    rw [hu, if_pos rfl] at hX
    dsimp only at hX
    rw [if_neg (by decide)]
    by_cases hk : 4096 ≤ k
    · rw [if_pos hk] at hX ⊢
      exact hX.symm
    · rw [if_neg hk] at hX ⊢
      by_cases hz : A = 0 ∧ 0 < AN ∨ B = 0 ∧ 0 < BN
      · rw [if_pos hz] at hX ⊢
        exact hX.symm
      · rw [if_neg hz] at hX ⊢
        refine ⟨AN.toNat + BN.toNat, Nat.le_refl _, by omega, Nat.zero_le _, rfl, ?_⟩
        rw [thenM_nil]
        cases hy : urdP (AN.toNat + BN.toNat) AN.toNat BN.toNat (p + 1) (L.drop (p + 1)) with
        | error e =>
          rw [hy] at hX
          exact hX
        | ok z =>
          obtain ⟨l, p1, r1⟩ := z
          rw [hy] at hX
          dsimp only at hX
          dsimp only [outZ]
          by_cases hsm : smB l = true
          · rw [if_pos hsm] at hX ⊢
            exact hX
          · rw [if_neg hsm] at hX ⊢
            exact hX
theorem smB_snoc (l : List Mk) (m : Mk) : (!smB (l ++ [m])) = ((!smB l) || (m.sg != 32)) := by
  unfold smB
  rw [List.all_append]
  by_cases h : m.sg = 32
  · simp [h]
  · simp [h]
/-- the variables of hunk: the result, the hunk that is read, and the reader -/
structure Uy (w : World) (R T : Nat) (vL : Value) (A AN B BN : Int) (v : Value) (l : List Mk) (st : Except (Nat × Int) Nat) (u : World) : Prop where
  gr : w.grownBy u (some R)
  bg : Hx u w.heap.size zhk (.slice none 0 0)
  bh : Hx u T ⟨A, AN, B, BN, l⟩ v
  own : u.ownsRow w.heap.size 103 2 v l.length (mkcells l)
  rd : RdZ u R vL st
  tl : w.heap.size < T
  rl : R < w.heap.size
section
variable {w u u' : World} {R T : Nat} {vL v : Value} {A AN B BN : Int} {l : List Mk} {st st' : Except (Nat × Int) Nat}
theorem Uy.keep (h : Uy w R T vL A AN B BN v l st u) (hb : Below u.heap.size u u') : Uy w R T vL A AN B BN v l st u' :=
  ⟨grown_two h.gr (low_grown hb _), h.bg.low hb, h.bh.low hb, owns_keep h.own hb, h.rd.low hb, h.tl, h.rl⟩
theorem Uy.call (h : Uy w R T vL A AN B BN v l st u) (hg : u.grownBy u' (some R)) (q : RdZ u' R vL st') : Uy w R T vL A AN B BN v l st' u' := by
  have h1 := h.tl
  have h3 := h.rl
  exact ⟨grown_two h.gr hg, h.bg.keep hg (fun e => by have := Option.some.inj e; omega), h.bh.keep hg (fun e => by have := Option.some.inj e; omega), owns_fr h.own hg h.rl, q, h.tl, h.rl⟩
/-- a cell of another box is written -/
theorem Uy.other (h : Uy w R T vL A AN B BN v l st u) {S : Nat} (ht : v.ownBlock ≠ some S) (h0 : T < S) (j : Nat) (z : Value) : Uy w R T vL A AN B BN v l st (u.setCell ⟨S, j, none⟩ z) := by
  have h1 := h.tl
  have h3 := h.rl
  have hg := grown_set u S j z
  exact ⟨grown_new h.gr (by omega) j z, h.bg.keep hg (fun e => by have := Option.some.inj e; omega), h.bh.keep hg (fun e => by have := Option.some.inj e; omega), h.own.kept hg (.inr ht), h.rd.off hg (fun e => by have := Option.some.inj e; omega), h.tl, h.rl⟩
/-- one line more -/
theorem Uy.more (h : Uy w R T vL A AN B BN v l st u) {m : Mk} {v' : Value} (hg : u.grownBy u' v.ownBlock) (ho : u'.ownsRow w.heap.size 103 2 v' (l.length + 1) (mkcells l ++ mkcells [m])) :
    Uy w R T vL A AN B BN v' (l ++ [m]) st (u'.setCell ⟨T, 4, none⟩ v') ∧ u'.cell? ⟨T, 4, none⟩ = some v ∧ u'.frozen? ⟨T, 4, none⟩ = false := by
  have h1 := h.tl
  have h3 := h.rl
  have hge : ∀ j, v.ownBlock = some j → w.heap.size ≤ j := fun j hj => owns_ge h.own hj
  have kb : ∀ (i : Nat) (cs : Array Value) (t : TypeId), 103 ≠ t → u.heap[i]? = some (.cells cs t) → u'.heap[i]? = some (.cells cs t) := fun i cs t ht hi => (hg.block i (Array.getElem?_eq_some_iff.1 hi).1 (fun e => own_box2 h.own hi ht e.symm)).trans hi
  have bh : Hx u' T ⟨A, AN, B, BN, l⟩ v := kb _ _ _ (by decide) h.bh
  have bg : Hx u' w.heap.size zhk (.slice none 0 0) := kb _ _ _ (by decide) h.bg
  have hgR : w.grownBy u' (some R) := ⟨hg.os.trans h.gr.os, hg.tape.trans h.gr.tape, hg.output.trans h.gr.output, Nat.le_trans h.gr.size hg.size, fun k h1 h2 => (hg.block k (Nat.lt_of_lt_of_le h1 h.gr.size) (fun e => by have := hge k e.symm; omega)).trans (h.gr.block k h1 h2)⟩
  have hck : RdZ u' R vL st := h.rd.off hg (fun e => by have := hge R e.symm; omega)
  have hg2 := grown_set u' T 4 v'
  refine ⟨⟨grown_new hgR (by omega) 4 v', bg.keep hg2 (fun e => by have := Option.some.inj e; omega), heap_setCell_same u' T 4 _ _ v' bh, ?_, hck.off hg2 (fun e => by have := Option.some.inj e; omega), h.tl, h.rl⟩, bh.cells.2.2.2.2, bh.frozen 4⟩
  rw [mkcells_append, List.length_append]
  exact ho.kept hg2 (.inr (own_box2 ho bh (by decide)))
theorem Uy.fin (h : Uy w R T vL A AN B BN v l st u) : (five u w.heap.size A AN B BN v).heap[w.heap.size]? = some (.cells #[.int .i64 A, .int .i64 AN, .int .i64 B, .int .i64 BN, v] 59 (0, 0)) ∧ (five u w.heap.size A AN B BN v).ownsRow w.heap.size 103 2 v l.length (mkcells l) ∧ RdZ (five u w.heap.size A AN B BN v) R vL st ∧ w.grownBy (five u w.heap.size A AN B BN v) (some R) := by
  have h3 := h.rl
  have hvb : v.ownBlock ≠ some w.heap.size := own_box2 h.own h.bg (by decide)
  have hR : ∀ {u : World} (q : RdZ u R vL st) (j : Nat) (z : Value), RdZ (u.setCell ⟨w.heap.size, j, none⟩ z) R vL st := fun q j z => q.off (grown_set _ _ j z) (fun e => by have := Option.some.inj e; omega)
  exact ⟨five_hx h.bg A AN B BN v, ((((h.own.kept (grown_set _ _ 0 _) (.inr hvb)).kept (grown_set _ _ 1 _) (.inr hvb)).kept (grown_set _ _ 2 _) (.inr hvb)).kept (grown_set _ _ 3 _) (.inr hvb)).kept (grown_set _ _ 4 _) (.inr hvb), hR (hR (hR (hR (hR h.rd 0 _) 1 _) 2 _) 3 _) 4 _, five_gr h.gr (Nat.le_refl _) A AN B BN v⟩
end
set_option maxHeartbeats 16000000 in
set_option maxRecDepth 40000 in
theorem rhunk6_f {R : Nat} {L : List (List UInt8)} {lo : Option Addr} {lc p k : Nat} (w : World) (q : RdZ w R (.slice lo L.length lc) (.ok p)) (HL : Hid (∀ u : World, (∀ k, k < w.heap.size → k ≠ R → u.heap[k]? = w.heap[k]?) → HS u (.slice lo L.length lc) L)) (hR : ∀ a, lo = some a → a.block ≠ R) (hP : Plain L) (hp : p ≤ L.length) (hLl : L.length ≤ 137438953472) (hs : ∀ s ∈ L, s.length ≤ 1099511627776) (hk : k ≤ 1099511627776)
    (X : Except (Nat × Int) (Hk × Nat)) (HX : Hid (uhZ k L p = X)) :
    Calls Tryz.prog 71 #[.pointer (some ⟨R, 0, none⟩), .int .i64 (k : Int)] w fun x w' => ∃ h v, x = .returned (hkV h v) ∧ w'.ownsRow w.heap.size 103 2 v h.ls.length (mkcells h.ls) ∧ w.grownBy w' (some R) ∧ HkS R (.slice lo L.length lc) X h w' := by
  have hRl := q.lt
  obtain ⟨W0, hW0⟩ : ∃ u, w.alloc (hkO zhk (.slice none 0 0)) = u := ⟨_, rfl⟩
  have hB0 : Below w.heap.size w W0 := (by rw [← hW0]; exact (Below.refl _ w).alloc (Nat.le_refl _) _)
  have hx0 : Hx W0 w.heap.size zhk (.slice none 0 0) := (by rw [← hW0]; exact Hx.new w _ _)
  have q0 := q.low hB0
  have HLs : Hid (∀ u, w.grownBy u (some R) → HS u (.slice lo L.length lc) L) := fun u hu => HL.out u (blk_self hu)
  obtain ⟨Y, hY⟩ : ∃ Y, nxt p (L.drop p) = Y := ⟨_, rfl⟩
  have hn2 : Calls Tryz.prog 98 #[.pointer (some ⟨R, 0, none⟩)] W0 fun x w' => ∃ (s : List UInt8) (st1 : Except (Nat × Int) Nat) (at' : Nat), x = .returned (.string ⟨s.toArray⟩) ∧ s.length ≤ 1099511627776 ∧ RdZ w' R (.slice lo L.length lc) st1 ∧ w'.cell? ⟨R, 1, none⟩ = some (.int .i64 (at' : Int)) ∧ (∀ A AN B BN r, uhdP s = (if r = true then some (A, AN, B, BN) else none) → hSt p A AN B BN L X [] AN.toNat BN.toNat false (hdS k r A AN B BN st1)) ∧ (∀ p1, st1 = .ok p1 → at' = p + 1) ∧ W0.grownBy w' (some R) := (by
    cases Y with
    | error z =>
      refine (gNext_f W0 q0 (HLs.out _ (low_grown hB0 _)) hR (fun p' e => by cases e; omega) hs (.error z) (by unfold nxZ; dsimp only; rw [hY])).mono ?_
      rintro x w' ⟨⟨rfl, q1⟩, g1⟩
      obtain ⟨a, z⟩ := z
      obtain ⟨⟨p', qx⟩, hz⟩ := q1
      refine ⟨[], .error (a, z), p', rfl, by simp, ⟨⟨p', qx⟩, hz⟩, qx.cells.2.1, ?_, fun _ h => (by cases h), g1⟩
      intro A AN B BN r _
      rw [hdS_err]
      show X = _
      rw [← HX.out]
      unfold uhZ uhkP
      rw [hY]
    | ok y =>
      obtain ⟨s, r⟩ := y
      obtain ⟨hsl, rfl, hpl⟩ := nxt_st hs hY
      refine (gNext_f W0 q0 (HLs.out _ (low_grown hB0 _)) hR (fun p' e => by cases e; omega) hs (.ok (s, p + 1)) (by unfold nxZ; dsimp only; rw [hY])).mono ?_
      rintro x w' ⟨⟨rfl, q1⟩, g1⟩
      exact ⟨s, .ok (p + 1), p + 1, rfl, hsl, q1, (Rx.cells q1).2.1, fun A AN B BN r hu => hdS_ok hY hpl hu HX.out, fun _ _ => rfl, g1⟩)
  clear hY HX
  unfold hkO zhk at hW0
  dsimp only at hW0
  go_enter Tryz.func71, Tryz.ntmps71
  go_wp2_with fail
  refine hn2.mono ?_
  rintro e w1 ⟨s, st1, at', rfl, hsl, q1, c1, hX1, hat, g1⟩
  have hx1 := hx0.keep g1 (fun e => by have := Option.some.inj e; omega)
  have gw1 : w.grownBy w1 (some R) := grown_two (low_grown hB0 _) g1
  clear hn2 hW0 hB0 hx0 q0 g1
  go_wp2_with fail
  refine (rhead_f s w1 hsl).mono ?_
  rintro e w2 ⟨A, AN, B, BN, r, rfl, hu, bA, bB, hB2⟩
  unfold hk0
  have HX2 : Hid (hSt p A AN B BN L X [] AN.toNat BN.toNat false (hdS k r A AN B BN st1)) := hX1 A AN B BN r hu
  have hU : Uy w R w2.heap.size (.slice lo L.length lc) A AN B BN (.slice none 0 0) [] st1 (w2.alloc (hkO ⟨A, AN, B, BN, []⟩ (.slice none 0 0))) := (by
    have hB3 : Below w1.heap.size w1 (w2.alloc (hkO ⟨A, AN, B, BN, []⟩ (.slice none 0 0))) := hB2.alloc hB2.size _
    exact ⟨grown_two gw1 (low_grown hB3 _), hx1.low hB3, Hx.new w2 _ _, World.ownsRow_nil _ _ _ _, q1.low hB3, Nat.lt_of_lt_of_le hx1.lt hB2.size, hRl⟩)
  unfold hkO at hU
  dsimp only at hU
  clear hX1 hu hB2 gw1 hx1 q1 c1 hsl
  obtain ⟨st2, hd2⟩ : ∃ s, hdS k r A AN B BN st1 = s := ⟨_, rfl⟩
  rw [hd2] at HX2
  have HAt : Hid (∀ p1, st2 = .ok p1 → at' = p + 1) := (by
    intro p1 h
    cases st1 with
    | error e => rw [hdS_err] at hd2; rw [← hd2] at h; cases h
    | ok p0 => exact hat p0 rfl)
  clear hat
  go_upto_block 0 with fail
  generalize w2.alloc (.cells #[.int .i64 A, .int .i64 AN, .int .i64 B, .int .i64 BN, .slice none 0 0] 59) = w3 at hU ⊢
  generalize w2.heap.size = T at hU ⊢
  obtain ⟨x0, x1, x2, x3, x4⟩ := hU.bh.cells
  dsimp only at x0 x1 x2 x3
  go_cut [6] (fun av wz => av = .int .i64 (at' : Int) ∧ Uy w R T (.slice lo L.length lc) A AN B BN (.slice none 0 0) [] st2 wz)
  case first =>
    unfold hdS at hd2
    cases r with
    | false =>
      rw [if_pos rfl] at hd2
      have HD : Hid (flS 3 st1 = st2) := hd2
      clear hd2 
      go_wp2_with fail
      refine (gFail_f 3 (by decide) _ hU.rd).mono ?_
      rintro e w4 ⟨rfl, q4, g4⟩
      rw [HD.out] at q4
      have hU4 := hU.call g4 q4
      go_wp2
      go_meet
      case rel => exact ⟨rfl, hU4⟩
    | true =>
      rw [if_neg (by decide)] at hd2
      by_cases hk4 : 4096 ≤ k
      · rw [if_pos hk4] at hd2
        have i1 : (4096 : Int) ≤ (k : Int) := by omega
        clear hk4
        have HD : Hid (flS 9 st1 = st2) := hd2
        clear hd2 
        go_wp2_with fail
        refine (gFail_f 9 (by decide) _ hU.rd).mono ?_
        rintro e w4 ⟨rfl, q4, g4⟩
        rw [HD.out] at q4
        have hU4 := hU.call g4 q4
        go_wp2
        go_meet
        case rel => exact ⟨rfl, hU4⟩
      · rw [if_neg hk4] at hd2
        have i1 : ¬ (4096 : Int) ≤ (k : Int) := by omega
        clear hk4
        by_cases hA : A = 0
        · have e1 : (A == 0) = true := beq_iff_eq.2 hA
          by_cases hAN : 0 < AN
          · rw [if_pos (.inl ⟨hA, hAN⟩)] at hd2
            clear hA
            have HD : Hid (flS 2 st1 = st2) := hd2
            clear hd2 
            go_wp2_with fail
            refine (gFail_f 2 (by decide) _ hU.rd).mono ?_
            rintro e w4 ⟨rfl, q4, g4⟩
            rw [HD.out] at q4
            have hU4 := hU.call g4 q4
            go_wp2
            go_meet
            case rel => exact ⟨rfl, hU4⟩
          · by_cases hB : B = 0
            · have e2 : (B == 0) = true := beq_iff_eq.2 hB
              by_cases hBN : 0 < BN
              · rw [if_pos (.inr ⟨hB, hBN⟩)] at hd2
                clear hA hB
                have HD : Hid (flS 2 st1 = st2) := hd2
                clear hd2 
                go_wp2_with fail
                refine (gFail_f 2 (by decide) _ hU.rd).mono ?_
                rintro e w4 ⟨rfl, q4, g4⟩
                rw [HD.out] at q4
                have hU4 := hU.call g4 q4
                go_wp2
                go_meet
                case rel => exact ⟨rfl, hU4⟩
              · rw [if_neg (by rintro (h | h) <;> omega)] at hd2
                clear hA hB
                have HD : Hid (st1 = st2) := hd2
                clear hd2
                go_wp2
                go_meet
                case rel => exact ⟨rfl, by rw [← HD.out]; exact hU⟩
            · have e2 : (B == 0) = false := beq_eq_false_iff_ne.2 hB
              rw [if_neg (by rintro (h | h) <;> omega)] at hd2
              clear hA hB
              have HD : Hid (st1 = st2) := hd2
              clear hd2
              go_wp2
              go_meet
              case rel => exact ⟨rfl, by rw [← HD.out]; exact hU⟩
        · have e1 : (A == 0) = false := beq_eq_false_iff_ne.2 hA
          by_cases hB : B = 0
          · have e2 : (B == 0) = true := beq_iff_eq.2 hB
            by_cases hBN : 0 < BN
            · rw [if_pos (.inr ⟨hB, hBN⟩)] at hd2
              clear hA hB
              have HD : Hid (flS 2 st1 = st2) := hd2
              clear hd2 
              go_wp2_with fail
              refine (gFail_f 2 (by decide) _ hU.rd).mono ?_
              rintro e w4 ⟨rfl, q4, g4⟩
              rw [HD.out] at q4
              have hU4 := hU.call g4 q4
              go_wp2
              go_meet
              case rel => exact ⟨rfl, hU4⟩
            · rw [if_neg (by rintro (h | h) <;> omega)] at hd2
              clear hA hB
              have HD : Hid (st1 = st2) := hd2
              clear hd2
              go_wp2
              go_meet
              case rel => exact ⟨rfl, by rw [← HD.out]; exact hU⟩
          · have e2 : (B == 0) = false := beq_eq_false_iff_ne.2 hB
            rw [if_neg (by rintro (h | h) <;> omega)] at hd2
            clear hA hB
            have HD : Hid (st1 = st2) := hd2
            clear hd2
            go_wp2
            go_meet
            case rel => exact ⟨rfl, by rw [← HD.out]; exact hU⟩
  case rest =>
  obtain ⟨rfl, hU2⟩ := hcut
  clear hU x0 x1 x2 x3 x4 hd2
  generalize wc = w4 at hU2 ⊢
  obtain ⟨x0, x1, x2, x3, x4⟩ := hU2.bh.cells
  dsimp only at x0 x1 x2 x3
  have hUd := hU2.keep (Below.drew (Below.refl _ _))
  go_upto_region 11 with fail
  go_region
  clear hU2 x0 x1 x2 x3 x4
  go_wp2
  generalize w4.drew = w5 at hUd ⊢
  have HAN : Hid (AN = ((AN.toNat : Nat) : Int) ∧ AN.toNat ≤ 2147483647) := ⟨by omega, by omega⟩
  have HBN : Hid (BN = ((BN.toNat : Nat) : Int) ∧ BN.toNat ≤ 2147483647) := ⟨by omega, by omega⟩
  clear bA bB
  go_loopw [9, 10, 11] (fun vo vf vc wr => ∃ (l : List Mk) (v : Value) (a' b' : Nat) (ch : Bool) (st : Except (Nat × Int) Nat), vo = .int .i64 (a' : Int) ∧ vf = .int .i64 (b' : Int) ∧ vc = .bool ch ∧ Uy w R T (.slice lo L.length lc) A AN B BN v l st wr ∧ a' ≤ 2147483647 ∧ b' ≤ 2147483647 ∧ l.length ≤ 137438953473 ∧ Hid (∀ p1, st = .ok p1 → at' = p + 1) ∧ Hid (hSt p A AN B BN L X l a' b' ch st)) (fun _ _ _ wr => zW L wr R)
  case atStart => exact ⟨[], _, AN.toNat, BN.toNat, false, st2, by rw [← HAN.out.1], by rw [← HBN.out.1], rfl, hUd, HAN.out.2, HBN.out.2, by simp, HAt, HX2⟩
  case round =>
  clear hUd HX2 HAt HAN HBN st1 st2
  obtain ⟨l, v, a', b', ch, st, rfl, rfl, rfl, hU, ha', hb', hll, HAt, HI⟩ := hrel
  obtain ⟨vo, vc, rfl⟩ := (holds_of hU.own).form
  have c3 := hU.rd.fe
  obtain ⟨sm, hsm⟩ : ∃ sm : Int, (a' : Int) + (b' : Int) = sm := ⟨_, rfl⟩
  have HK : Hid (zW L wr R = zN L st) := zW_of hU.rd
  cases st with
  | error e =>
    obtain ⟨a, z⟩ := e
    have hzb : (z == 0) = false := beq_eq_false_iff_ne.2 hU.rd.2
    unfold feS at c3
    dsimp only at c3
    have HKS : Hid (∀ u, RdZ u R (.slice lo L.length lc) (.error (a, z)) → HkS R (.slice lo L.length lc) X ⟨A, AN, B, BN, l⟩ u) := (by
      intro u hq
      have h : X = .error (a, z) := HI.out
      rw [h]
      exact hq)
    clear HI HK HAt
    by_cases h0 : 0 < sm
    · have hU9 := hU
      clear hU
      go_upto_region 20 with fail
      obtain ⟨z0, z1, z2, z3, z4⟩ := hU9.bh.cells
      dsimp only at z0 z1 z2 z3
      obtain ⟨y0, y1, y2, y3, y4⟩ := hU9.bg.cells
      dsimp only [zhk] at y0 y1 y2 y3
      have yf0 := hU9.bg.frozen 0
      have yf1 := hU9.bg.frozen 1
      have yf2 := hU9.bg.frozen 2
      have yf3 := hU9.bg.frozen 3
      have yf4 := hU9.bg.frozen 4
      obtain ⟨fh, fo, fq, fg⟩ := hU9.fin
      unfold five at fh fo fq fg
      clear hU9
      go_wp2
      exact bodyPost_ret (v := hkV ⟨A, AN, B, BN, l⟩ (.slice vo l.length vc)) (results_cell_row rfl _ _ w.heap.size 59 #[.int .i64 A, .int .i64 AN, .int .i64 B, .int .i64 BN, .slice vo l.length vc] (0, 0) _ rfl fh Tryz.underlying59 rfl (by kernel_rfl)) rfl ⟨⟨A, AN, B, BN, l⟩, _, rfl, fo, fg, HKS.out _ fq⟩
    · have hU9 := hU
      clear hU
      go_upto_region 20 with fail
      obtain ⟨z0, z1, z2, z3, z4⟩ := hU9.bh.cells
      dsimp only at z0 z1 z2 z3
      obtain ⟨y0, y1, y2, y3, y4⟩ := hU9.bg.cells
      dsimp only [zhk] at y0 y1 y2 y3
      have yf0 := hU9.bg.frozen 0
      have yf1 := hU9.bg.frozen 1
      have yf2 := hU9.bg.frozen 2
      have yf3 := hU9.bg.frozen 3
      have yf4 := hU9.bg.frozen 4
      obtain ⟨fh, fo, fq, fg⟩ := hU9.fin
      unfold five at fh fo fq fg
      clear hU9
      go_wp2
      exact bodyPost_ret (v := hkV ⟨A, AN, B, BN, l⟩ (.slice vo l.length vc)) (results_cell_row rfl _ _ w.heap.size 59 #[.int .i64 A, .int .i64 AN, .int .i64 B, .int .i64 BN, .slice vo l.length vc] (0, 0) _ rfl fh Tryz.underlying59 rfl (by kernel_rfl)) rfl ⟨⟨A, AN, B, BN, l⟩, _, rfl, fo, fg, HKS.out _ fq⟩
  | ok pn =>
    unfold feS at c3
    dsimp only at c3
    obtain ⟨n, hn, hpn, hlp, hch, hI⟩ : ∃ n, a' + b' ≤ n ∧ pn ≤ L.length ∧ l.length ≤ pn ∧ ch = !smB l ∧ outZ p A AN B BN (thenM l (urdP n a' b' pn (L.drop pn))) = X := HI.out
    have hat := HAt.out pn rfl
    have HA2 : Hid (at' = p + 1) := hat
    clear hat
    by_cases h0 : a' + b' = 0
    · have h1 : ¬ 0 < sm := by omega
      rw [urd_end n h0] at hI
      dsimp only [outZ] at hI
      have HI2 : Hid ((if smB l = true then (.error (p + 1, 50) : Except (Nat × Int) (Hk × Nat)) else .ok (⟨A, AN, B, BN, l⟩, pn)) = X) := hI
      clear HI HAt hI hn h0
      cases ch with
      | true =>
        have HKS : Hid (∀ u, RdZ u R (.slice lo L.length lc) (.ok pn) → HkS R (.slice lo L.length lc) X ⟨A, AN, B, BN, l⟩ u) := (by
          intro u hq
          have h := HI2.out
          rw [if_neg (by intro h; rw [h] at hch; cases hch)] at h
          rw [← h]
          exact ⟨rfl, hq⟩)
        clear HI2 hch HK
        have hU9 := hU
        clear hU
        go_upto_region 20 with fail
        obtain ⟨z0, z1, z2, z3, z4⟩ := hU9.bh.cells
        dsimp only at z0 z1 z2 z3
        obtain ⟨y0, y1, y2, y3, y4⟩ := hU9.bg.cells
        dsimp only [zhk] at y0 y1 y2 y3
        have yf0 := hU9.bg.frozen 0
        have yf1 := hU9.bg.frozen 1
        have yf2 := hU9.bg.frozen 2
        have yf3 := hU9.bg.frozen 3
        have yf4 := hU9.bg.frozen 4
        obtain ⟨fh, fo, fq, fg⟩ := hU9.fin
        unfold five at fh fo fq fg
        clear hU9
        go_wp2
        exact bodyPost_ret (v := hkV ⟨A, AN, B, BN, l⟩ (.slice vo l.length vc)) (results_cell_row rfl _ _ w.heap.size 59 #[.int .i64 A, .int .i64 AN, .int .i64 B, .int .i64 BN, .slice vo l.length vc] (0, 0) _ rfl fh Tryz.underlying59 rfl (by kernel_rfl)) rfl ⟨⟨A, AN, B, BN, l⟩, _, rfl, fo, fg, HKS.out _ fq⟩
      | false =>
        have HKS : Hid (∀ u, RdZ u R (.slice lo L.length lc) (.error (at', 50)) → HkS R (.slice lo L.length lc) X ⟨A, AN, B, BN, l⟩ u) := (by
          intro u hq
          have h := HI2.out
          rw [if_pos (by cases hs : smB l with
            | true => rfl
            | false => rw [hs] at hch; cases hch)] at h
          rw [← h, ← HA2.out]
          exact hq)
        clear HI2 hch HK
        have qx : Rx wr R (.slice lo L.length lc) (pn : Int) 0 0 := hU.rd
        obtain ⟨r0, r1, r2, r3⟩ := qx.cells
        have rf2 := qx.frozen 2
        have rf3 := qx.frozen 3
        have hU9 : Uy w R T (.slice lo L.length lc) A AN B BN (.slice vo l.length vc) l (.error (at', 50)) ((wr.setCell ⟨R, 2, none⟩ (.int .i64 (at' : Int))).setCell ⟨R, 3, none⟩ (.int .i64 50)) := hU.call (grown_two (grown_set wr R 2 _) (grown_set _ R 3 _)) ⟨⟨pn, qx.fault (at' : Int) 50⟩, by decide⟩
        clear hU
        go_upto_region 20 with fail
        clear r0 r1 r2 r3 rf2 rf3 qx
        generalize (wr.setCell ⟨R, 2, none⟩ (.int .i64 (at' : Int))).setCell ⟨R, 3, none⟩ (.int .i64 50) = w9 at hU9 ⊢
        obtain ⟨z0, z1, z2, z3, z4⟩ := hU9.bh.cells
        dsimp only at z0 z1 z2 z3
        obtain ⟨y0, y1, y2, y3, y4⟩ := hU9.bg.cells
        dsimp only [zhk] at y0 y1 y2 y3
        have yf0 := hU9.bg.frozen 0
        have yf1 := hU9.bg.frozen 1
        have yf2 := hU9.bg.frozen 2
        have yf3 := hU9.bg.frozen 3
        have yf4 := hU9.bg.frozen 4
        obtain ⟨fh, fo, fq, fg⟩ := hU9.fin
        unfold five at fh fo fq fg
        clear hU9
        go_wp2
        exact bodyPost_ret (v := hkV ⟨A, AN, B, BN, l⟩ (.slice vo l.length vc)) (results_cell_row rfl _ _ w.heap.size 59 #[.int .i64 A, .int .i64 AN, .int .i64 B, .int .i64 BN, .slice vo l.length vc] (0, 0) _ rfl fh Tryz.underlying59 rfl (by kernel_rfl)) rfl ⟨⟨A, AN, B, BN, l⟩, _, rfl, fo, fg, HKS.out _ fq⟩
    · have h1 : 0 < sm := by omega
      obtain ⟨n', rfl⟩ : ∃ n', n = n' + 1 := ⟨n - 1, by omega⟩
      rw [urd_step n' h0] at hI
      obtain ⟨Z, hZ⟩ : ∃ Z, ulnP a' b' pn (L.drop pn) = Z := ⟨_, rfl⟩
      rw [hZ] at hI
      have hB1 : Below wr.heap.size wr (wr.alloc mk0) := (Below.refl _ wr).alloc (Nat.le_refl _) _
      have hU1 := hU.keep hB1
      have hS1 := heap_alloc_new wr mk0
      have hln := r6line_f a' b' (wr.alloc mk0) hU1.rd (fun u hu => HLs.out u (grown_two hU1.gr hu)) hR hpn hLl hs ha' hb' Z hZ
      have hln2 : Calls Tryz.prog 120 #[.pointer (some ⟨R, 0, none⟩), .int .i64 (a' : Int), .int .i64 (b' : Int)] (wr.alloc mk0) fun e w' => ∃ (m : Mk) (a2 b2 : Nat) (st2 : Except (Nat × Int) Nat), e = .returned (.tuple #[.agg #[.int .u8 m.sg, .string ⟨m.tx.toArray⟩], .int .i64 (a2 : Int), .int .i64 (b2 : Int)]) ∧ RdZ w' R (.slice lo L.length lc) st2 ∧ (wr.alloc mk0).grownBy w' (some R) ∧ hSt p A AN B BN L X (l ++ [m]) a2 b2 (ch || (m.sg != 32)) st2 ∧ a2 ≤ 2147483647 ∧ b2 ≤ 2147483647 ∧ zN L st2 < zN L (.ok pn) := (by
        refine hln.mono ?_
        intro e w' hq
        cases Z with
        | error z =>
          obtain ⟨rfl, q2, g2⟩ := hq
          exact ⟨⟨0, []⟩, 0, 0, .error z, rfl, q2, g2, hI.symm, by decide, by decide, by show 0 < L.length - pn + 1; omega⟩
        | ok z =>
          obtain ⟨m, p1, r1⟩ := z
          obtain ⟨rfl, q2, g2⟩ := hq
          obtain ⟨rfl, d2, d3, d4, d5, d6⟩ := uln_drop hP hZ
          refine ⟨m, a' - sgO m, b' - sgN m, .ok p1, rfl, q2, g2, ⟨n', by omega, d3, by rw [List.length_append]; simp; omega, ?_, hI⟩, by omega, by omega, by show L.length - p1 + 1 < L.length - pn + 1; omega⟩
          rw [hch, smB_snoc])
      have HVb : Hid ((Value.slice vo l.length vc).ownBlock ≠ some wr.heap.size) := (by
        intro e
        have := owns_lt hU.own e
        omega)
      have HTl : Hid (T < wr.heap.size) := hU.bh.lt
      unfold mk0 at hU1 hS1 hln2
      clear HI hB1 hU hln hZ hI hch h0 hn
      go_upto_region 15 with fail
      generalize wr.alloc (.cells #[.int .u8 0, .string ⟨#[]⟩] 103) = u1 at hU1 hS1 hln2 ⊢
      obtain ⟨M, hM⟩ : ∃ M, wr.heap.size = M := ⟨_, rfl⟩
      rw [hM] at hS1 HVb HTl ⊢
      clear hM
      go_wp2_with fail
      refine hln2.mono ?_
      rintro e u2 ⟨m, a2, b2, st2, rfl, q2, g2, hSt2, ha2, hb2, hzn⟩
      have HH2 : Hid (hSt p A AN B BN L X (l ++ [m]) a2 b2 (ch || (m.sg != 32)) st2 ∧ zN L st2 < zN L (.ok pn)) := ⟨hSt2, hzn⟩
      have hU2 := hU1.call g2 q2
      have hS2 : u2.heap[M]? = some (.cells #[.int .u8 0, .string ⟨#[]⟩] 103) := (g2.block M (Array.getElem?_eq_some_iff.1 hS1).1 (fun e => by have := Option.some.inj e; have := hU1.rl; have := hU1.tl; have := HTl.out; omega)).trans hS1
      have hU3 := (hU2.other HVb.out HTl.out 0 (.int .u8 m.sg)).other HVb.out HTl.out 1 (.string ⟨m.tx.toArray⟩)
      have hS3 := heap_setCell_same _ M 1 _ _ (.string ⟨m.tx.toArray⟩) (heap_setCell_same u2 M 0 _ _ (.int .u8 m.sg) hS2)
      have s0 : u2.cell? ⟨M, 0, none⟩ = some (.int .u8 0) := (by rw [Lib.cell_of_heap hS2]; rfl)
      have s1 : u2.cell? ⟨M, 1, none⟩ = some (.string ⟨#[]⟩) := (by rw [Lib.cell_of_heap hS2]; rfl)
      have sf0 := Lib.frozen_of_heap hS2 0
      have sf1 := Lib.frozen_of_heap hS2 1
      clear hln2 hU1 hS1 g2 q2 hSt2 hzn hU2
      go_upto_region 16 with fail
      clear s0 s1 sf0 sf1 hS2
      generalize (u2.setCell ⟨M, 0, none⟩ (.int .u8 m.sg)).setCell ⟨M, 1, none⟩ (.string ⟨m.tx.toArray⟩) = u3 at hU3 hS3 ⊢
      have s0 : u3.cell? ⟨M, 0, none⟩ = some (.int .u8 m.sg) := (by rw [Lib.cell_of_heap hS3]; rfl)
      have s1 : u3.cell? ⟨M, 1, none⟩ = some (.string ⟨m.tx.toArray⟩) := (by rw [Lib.cell_of_heap hS3]; rfl)
      obtain ⟨ch2, hc2⟩ : ∃ c, (ch || (m.sg != 32)) = c := ⟨_, rfl⟩
      rw [hc2] at HH2
      go_cut [11] from 57 to 88 (fun cv wz => cv = .bool ch2 ∧ wz = u3)
      case first =>
        cases ch with
        | true =>
          have HE : Hid (true = ch2) := hc2
          clear hc2
          go_wp2
          go_meet
          case rel => exact ⟨by rw [← HE.out], rfl⟩
        | false =>
          have HE : Hid ((m.sg != 32) = ch2) := hc2
          clear hc2
          go_wp2
          go_meet
          case rel => exact ⟨by rw [← HE.out], rfl⟩
      case rest =>
      obtain ⟨rfl, hwc⟩ := hcut
      subst hwc
      generalize wc = u4 at hU3 hS3 s0 s1 ⊢
      obtain ⟨_, _, _, _, l4⟩ := hU3.bh.cells
      have hBA : Below u4.heap.size u4 (u4.alloc (.cells #[.int .u8 m.sg, .string ⟨m.tx.toArray⟩] 103)) := (Below.refl _ u4).alloc (Nat.le_refl _) _
      have hUA := hU3.keep hBA
      have hownA := hUA.own
      have hbase := hUA.gr.size
      have hrow : Holds (u4.alloc (.cells #[.int .u8 m.sg, .string ⟨m.tx.toArray⟩] 103)) (.slice (some ⟨u4.heap.size, 0, none⟩) 1 1) 1 (mkcells [m]) := new_holds u4 #[.int .u8 m.sg, .string ⟨m.tx.toArray⟩] 103 1 1 (by decide)
      have hxb : l.length + 1 ≤ 2199023255552 := by omega
      clear hBA hU3 hS3 hc2
      go_wp2_with (at_builtin; refine wpList_append_w _ (by kernel_rfl) (.tmp 84) (.tmp 86) 57 103 (.agg #[.int .u8 0, .string ⟨#[]⟩]) 2 24 rfl Tryz.underlying57 infoMk rfl (by decide) (by decide) w.heap.size _ _ _ rfl hownA _ 1 (mkcells [m]) rfl hrow (mkcells_length _) (mkcells_one _) hxb hbase ?_)
      intro v5 u5 ho5 hg5 _
      obtain ⟨hU5, t4, tf4⟩ := hUA.more hg5 ho5
      obtain ⟨o5, c5, rfl⟩ := (holds_of ho5).form
      clear hUA hownA hbase hrow ho5 hg5 s0 s1 l4 c3
      go_wp2
      go_roundw
      case rel => exact ⟨l ++ [m], _, a2, b2, ch2, st2, rfl, rfl, rfl, hU5, ha2, hb2, by rw [List.length_append]; simp; omega, fun _ _ => HA2.out, HH2.out.1⟩
      case measure =>
        rw [zW_of hU5.rd, HK.out]
        exact HH2.out.2
end Go.Proofs.YtgiojkhmkeocfaaGreatDoor

/- The reference's Parse of layer 16, walked. -/
set_option maxRecDepth 20000
namespace Go.Proofs.YtgiojkhmkeocfaaGreatDoor
open Go.RowKit Go.Proofs.YtgiojkhmkeocfaaGreatDoor.Tx
attribute [local go_sem] ByteArray.extract_mk no_at

set_option maxHeartbeats 16000000 in
set_option maxRecDepth 40000 in
theorem rParse16S {L : List (List UInt8)} (t : List UInt8) (w W0 : World) (hW0 : w.alloc (.cells #[.int .i64 0, .int .i64 0] 42) = W0) (hP : Plain L) (hLl : L.length ≤ 137438953472) (hs : ∀ s ∈ L, s.length ≤ 1099511627776) (st0 : Except (Nat × Int) Nat) (f00 : Nat) (X : Except (Nat × Int) (List Pth)) (HX : Hid (gOt uhZ atR [45, 45, 45, 32] [43, 43, 43, 32] L [] f00 X st0))
    (hr : Calls Tryz.prog 52 #[.string ⟨t.toArray⟩] W0 fun e w' => ∃ (R : Nat) (lo : Option Addr) (lc : Nat), e = .returned (.pointer (some ⟨R, 0, none⟩)) ∧ Rg w R L (.slice lo L.length lc) (.slice none 0 0) [] st0 w') :
    Calls Tryz.prog 27 #[.string ⟨t.toArray⟩] w fun e w' => RfQ6 w X e w' := by
  go_enter Tryz.func27, Tryz.ntmps27
  go_wp2_with fail
  refine hr.mono ?_
  rintro e w1 ⟨R, lo, lc, rfl, hR0⟩
  clear hr hW0
  go_wp2
  go_loopw [5] (fun ov wr => ∃ (F : List Pfd) (st : Except (Nat × Int) Nat) (f0 : Nat) (oo : Option Addr) (oc : Nat), ov = .slice oo F.length oc ∧ Rg w R L (.slice lo L.length lc) ov F st wr ∧ Hid (gOt uhZ atR [45, 45, 45, 32] [43, 43, 43, 32] L (F.map (·.x)) f0 X st)) (fun _ wr => zW L wr R)
  case atStart => exact ⟨[], st0, f00, none, 0, rfl, hR0, HX⟩
  case round =>
  clear hR0 HX
  obtain ⟨F, st, f0, oo, oc, rfl, hRo, HO⟩ := hrel
  have HK0 : Hid (zW L wr R = zN L st) := zW_of hRo.rd
  obtain ⟨b, hb⟩ : ∃ b, mrZ L st = b := ⟨_, rfl⟩
  have hmore := gMore_f wr hRo.rd b hb
  go_wp2_with fail
  refine hmore.mono ?_
  rintro e w2 ⟨rfl, m2, rfl⟩
  have hRb := hRo.keep (below_drewN (Below.refl _ _) m2)
  clear hmore hRo
  generalize wr.drewN m2 = wb at hRb ⊢
  have hRo := hRb
  clear hRb
  cases b with
  | false =>
    obtain ⟨y0, y1, yf⟩ := hRo.cells
    have yf0 := yf 0
    have yf1 := yf 1
    cases st with
    | error e =>
      obtain ⟨a, z⟩ := e
      have hXe : X = .error (a, z) := HO.out
      subst hXe
      obtain ⟨⟨p', q⟩, hz⟩ := hRo.rd
      obtain ⟨d0, d1, d2, d3⟩ := q.cells
      obtain ⟨fh, fp⟩ := hRo.fin (a : Int) z
      have hzb : (z != 0) = true := bne_iff_ne.2 hz
      clear q HO hb HK0 yf
      go_wp2_with fail
      go_region
      have fh2 : ((wb.setCell ⟨w.heap.size, 0, none⟩ (.int .i64 (a : Int))).setCell ⟨w.heap.size, 1, none⟩ (.int .i64 z)).drew.heap[w.heap.size]? = some (.cells #[.int .i64 (a : Int), .int .i64 z] 42) := fh
      have fp2 := fp.low.drew
      clear fh fp y0 y1 yf0 yf1 d0 d1 d2 d3 hRo
      generalize ((wb.setCell ⟨w.heap.size, 0, none⟩ (.int .i64 (a : Int))).setCell ⟨w.heap.size, 1, none⟩ (.int .i64 z)).drew = W3 at *
      go_wp2
      exact bodyPost_ret (results_tmp_cell rfl _ _ w.heap.size 42 #[.int .i64 (a : Int), .int .i64 z] (0, 0) _ rfl fh2 Tryz.underlying42 rfl (by kernel_rfl)) rfl ⟨rfl, hz, fp2⟩
    | ok p =>
      have hpe : ¬ p < L.length := of_decide_eq_false hb
      have hXe : X = .ok (F.map (·.x)) := (by rw [← HO.out.1]; exact gPs_end (by omega) _ _ _)
      subst hXe
      have d3 := hRo.rd.fe
      unfold feS at d3
      dsimp only at d3
      obtain ⟨fh, fp⟩ := hRo.fin 0 0
      clear HO hb hRo HK0 yf
      go_wp2
      exact bodyPost_ret (results_tmp_cell rfl _ _ w.heap.size 42 #[.int .i64 0, .int .i64 0] (0, 0) _ rfl fh Tryz.underlying42 rfl (by kernel_rfl)) rfl ⟨.slice oo F.length oc, F, rfl, fp, rfl⟩
  | true =>
    cases st with
    | error e => cases hb
    | ok p =>
    have hpl : p < L.length := of_decide_eq_true hb
    have HIo : Hid (thenPs (F.map (·.x)) (gPs uhZ atR [45, 45, 45, 32] [43, 43, 43, 32] L f0 (F.map (·.x)).length p) = X ∧ p ≤ L.length ∧ L.length ≤ f0 + p ∧ (F.map (·.x)).length ≤ p) := HO
    have hFp : F.length ≤ p := (by have := HIo.out.2.2.2; rw [List.length_map] at this; exact this)
    clear HO hb
    have hRw : R < wb.heap.size := hRo.rd.lt
    have HLu : Hid (∀ u : World, (∀ k, k < wb.heap.size → k ≠ R → u.heap[k]? = wb.heap[k]?) → HS u (.slice lo L.length lc) L) := fun u hu => hRo.linesB hu
    have hne := hRo.ne rfl
    have hP0 : Pzr wb R wb.heap.size (.slice lo L.length lc) [] [] (.slice none 0 0) [] (.ok p) (wb.alloc zpO) := ⟨low_grown ((Below.refl _ wb).alloc (Nat.le_refl _) _) _, heap_alloc_new wb _, hnil_row _ _ _ _, fun x hx => (by cases hx), hRo.rd.low ((Below.refl _ wb).alloc (Nat.le_refl _) _), Nat.le_refl _, hRw⟩
    unfold zpO at hP0
    obtain ⟨Z1, hZ1⟩ : ∃ Z, nmZ [45, 45, 45, 32] L (.ok p) = Z := ⟨_, rfl⟩
    have hc1 := hnamed_f [45, 45, 45, 32] rfl _ hP0.rd (HLu.out _ (blk_self hP0.gr)) hne (fun p' e => by cases e; omega) hs (fun s p1 h => (nxz_short hs h).1) Z1 hZ1
    go_upto_region 5 with fail
    generalize wb.alloc (.cells #[.string ⟨#[]⟩, .string ⟨#[]⟩, .slice none 0 0] 55) = w3 at hP0 hc1 ⊢
    obtain ⟨S, hS⟩ : ∃ S, wb.heap.size = S := ⟨_, rfl⟩
    rw [hS] at hP0
    have HS0 : Hid (wb.heap.size = S) := hS
    simp only [hS]
    clear hS
    go_wp2_with fail
    refine hc1.mono ?_
    rintro e w4 ⟨hq4, g4⟩
    obtain ⟨rfl, q4⟩ := hq4.st
    have hP1 := hP0.call g4 q4
    clear hc1 hP0 hq4 q4 g4
    obtain ⟨c0, c1, c2⟩ := hP1.cells
    have f0c := hP1.frozen 0
    obtain ⟨n1, hn1⟩ : ∃ n, nmN Z1 = n := ⟨_, rfl⟩
    have hP2 := hP1.put 0 (.string ⟨(nmN Z1).toArray⟩) (m1 := n1) (m2 := []) (hv' := .slice none 0 0) (by rw [hn1]; rfl) hP1.own
    rw [hn1] at hP2 ⊢
    obtain ⟨st1, hst1⟩ : ∃ s, stP Z1 = s := ⟨_, rfl⟩
    rw [hst1] at hP2
    have HN1 : Hid (nmN (nmZ [45, 45, 45, 32] L (.ok p)) = n1 ∧ stP (nmZ [45, 45, 45, 32] L (.ok p)) = st1) := ⟨by rw [hZ1]; exact hn1, by rw [hZ1]; exact hst1⟩
    clear hP1 hn1 hst1 hZ1 Z1
    obtain ⟨st2, hst2⟩ : ∃ s, naS [45, 45, 45, 32] [43, 43, 43, 32] L F.length (.ok p) = s := ⟨_, rfl⟩
    have hst2' : (if 64 ≤ F.length then flS 9 st1 else st1) = st2 := (by rw [← hst2, ← HN1.out.2]; rfl)
    go_upto_region 6 with fail
    clear c0 c1 c2 f0c
    obtain ⟨b6, hb6⟩ : ∃ b, decide ((64 : Int) ≤ (F.length : Int)) = b := ⟨_, rfl⟩
    go_upto_if 16 with fail
    generalize w4.setCell ⟨S, 0, none⟩ (.string ⟨n1.toArray⟩) = w5 at hP2 ⊢
    go_cut [5] from 9 to 51 (fun lv wz => lv = .slice oo F.length oc ∧ Pzr wb R S (.slice lo L.length lc) n1 [] (.slice none 0 0) [] st2 wz)
    case first =>
      cases b6 with
      | true =>
        have h64 : 64 ≤ F.length := (by have := of_decide_eq_true hb6; omega)
        rw [if_pos h64] at hst2'
        clear h64
        go_wp2_with fail
        refine (gFail_f 9 (by decide) _ hP2.rd).mono ?_
        rintro e w6 ⟨rfl, q6, g6⟩
        rw [hst2'] at q6
        have hP3 := hP2.call g6 q6
        go_wp2
        go_meet
        case rel => exact ⟨rfl, hP3⟩
      | false =>
        have h64 : ¬ 64 ≤ F.length := (by have := of_decide_eq_false hb6; omega)
        rw [if_neg h64] at hst2'
        subst hst2'
        go_wp2
        go_meet
        case rel => exact ⟨rfl, hP2⟩
    case rest =>
    obtain ⟨rfl, hP3⟩ := hcut
    clear hP2 hst2' hb6
    generalize wc = w6 at hP3 ⊢
    obtain ⟨Z2, hZ2⟩ : ∃ Z, nmZ [43, 43, 43, 32] L st2 = Z := ⟨_, rfl⟩
    have hc2 := hnamed_f [43, 43, 43, 32] rfl _ hP3.rd (HLu.out _ (blk_self hP3.gr)) hne (fun p' e => by have := naS1_ok (hst2.trans e); omega) hs (fun s p1 h => (nxz_short hs h).1) Z2 hZ2
    go_wp2_with fail
    refine hc2.mono ?_
    rintro e w7 ⟨hq7, g7⟩
    obtain ⟨rfl, q7⟩ := hq7.st
    have hP4 := hP3.call g7 q7
    clear hc2 hP3 hq7 q7 g7
    obtain ⟨c0, c1, c2⟩ := hP4.cells
    have f1c := hP4.frozen 1
    obtain ⟨n2, hn2⟩ : ∃ n, nmN Z2 = n := ⟨_, rfl⟩
    have hP5 := hP4.put 1 (.string ⟨(nmN Z2).toArray⟩) (m1 := n1) (m2 := n2) (hv' := .slice none 0 0) (by rw [hn2]; rfl) hP4.own
    rw [hn2] at hP5 ⊢
    obtain ⟨st3, hst3⟩ : ∃ s, stP Z2 = s := ⟨_, rfl⟩
    rw [hst3] at hP5
    have HPa : Hid (gPa uhZ atR [45, 45, 45, 32] [43, 43, 43, 32] L F.length p = gTo uhZ atR L n1 n2 st3) := (by
      show _ = _
      rw [gPa_st, hst2, hZ2, hst3, hn2, HN1.out.1])
    have HB3 : Hid (∀ p2, st3 = .ok p2 → p < p2 ∧ p2 ≤ L.length) := (by
      intro p2 h
      exact naS_ok (a1 := [45, 45, 45, 32]) (a2 := [43, 43, 43, 32]) (k := F.length) (by rw [hst2, hZ2, hst3, h]))
    clear hP4 hn2 hst3 hZ2 Z2 hst2 HN1
    obtain ⟨Y, HY0, HYz⟩ : ∃ Y, gSt uhZ atR L [] (L.length + 1) Y st3 ∧ gPa uhZ atR [45, 45, 45, 32] [43, 43, 43, 32] L F.length p = gIn n1 n2 Y := (by
      cases st3 with
      | error e => exact ⟨.error e, rfl, HPa.out⟩
      | ok p2 =>
        have hb := HB3.out p2 rfl
        refine ⟨gHs uhZ atR L (L.length + 1) 0 p2, ⟨gLf_nil _ _ _ _ _, hb.2, by omega, Nat.zero_le _⟩, ?_⟩
        rw [HPa.out]
        show gIn n1 n2 _ = gIn n1 n2 _
        rw [gHs_fuel (gok16 hP) ((L.drop p2).length + 1) (L.length + 1) 0 p2 hb.2 (by rw [List.length_drop]; omega) (by omega)])
    have HY1 : Hid (gSt uhZ atR L [] (L.length + 1) Y st3) := HY0
    have HYZ : Hid (gPa uhZ atR [45, 45, 45, 32] [43, 43, 43, 32] L F.length p = gIn n1 n2 Y) := HYz
    clear HY0 HYz HPa HB3
    go_upto_region 9 with fail
    clear c0 c1 c2 f1c
    generalize w7.setCell ⟨S, 1, none⟩ (.string ⟨n2.toArray⟩) = w8 at hP5 ⊢
    go_loopw [] (fun wr => ∃ (hv : Value) (P : List (Hk × Value)) (st' : Except (Nat × Int) Nat) (f : Nat), (∃ o c, hv = .slice o P.length c) ∧ Pzr wb R S (.slice lo L.length lc) n1 n2 hv P st' wr ∧ P.length ≤ 137438953473 ∧ Hid (gSt uhZ atR L (P.map (·.1)) f Y st')) (fun wr => zW L wr R)
    case atStart => exact ⟨_, [], st3, L.length + 1, ⟨none, 0, rfl⟩, hP5, by simp, HY1⟩
    case round =>
    clear hP5 HY1
    obtain ⟨hv, P, st', f, ⟨ho, hc, rfl⟩, hZ, hPl, HI⟩ := hrel
    obtain ⟨c0, c1, c2⟩ := hZ.cells
    have c3 := hZ.rd.fe
    have hLr := HLu.out _ (blk_self hZ.gr)
    have HK : Hid (zW L wr R = zN L st') := zW_of hZ.rd
    cases st' with
    | error e =>
      obtain ⟨a, z⟩ := e
      have hzb : (z == 0) = false := beq_eq_false_iff_ne.2 hZ.rd.2
      unfold feS at c3
      dsimp only at c3
      generalize hst' : (Except.error (a, z) : Except (Nat × Int) Nat) = st' at hZ HI HK
      have HEn : Hid (gEn n1 n2 (P.map (·.1)) (gPa uhZ atR [45, 45, 45, 32] [43, 43, 43, 32] L F.length p) st') := (by
        show gEn _ _ _ _ _
        rw [HYZ.out]
        rw [← hst'] at HI ⊢
        have h : Y = .error (a, z) := HI.out
        rw [h]
        rfl)
      have hZ2 := hZ
      clear hZ hst' HI HK hLr HYZ
      go_upto_region 11 with fail
      clear c0 c1 c2 c3 hzb
      generalize wr = wc at hZ2 ⊢
      rw [← show (F.map (·.x)).length = F.length from List.length_map _] at HEn
      obtain ⟨hRq, hPq⟩ := hRo.inner hZ2
      obtain ⟨t0, t1, t2⟩ := hZ2.cells
      have HO9 : Hid (gOt uhZ atR [45, 45, 45, 32] [43, 43, 43, 32] L ((F ++ [(⟨⟨n1, n2, P.map (·.1)⟩, .slice ho P.length hc, P⟩ : Pfd)]).map (·.x)) (f0 - 1) X st') := (by
        have h := gOt_next (gok16 hP) hpl HIo.out (n1 := n1) (n2 := n2) (hs := P.map (·.1)) HEn.out
        show gOt _ _ _ _ _ _ _ _ _
        rw [List.map_append]
        exact h)
      have hRA := hRq.keep ((Below.refl _ wc).alloc (Nat.le_refl _) (pxO ⟨⟨n1, n2, P.map (·.1)⟩, .slice ho P.length hc, P⟩))
      have hPA := hPq.keep ((Below.refl _ wc).alloc (Nat.le_refl _) (pxO ⟨⟨n1, n2, P.map (·.1)⟩, .slice ho P.length hc, P⟩))
      have hownA := hRA.pw.own
      have hbase := hRA.pw.low.size
      have hrow : Holds _ _ 1 (pxC ⟨⟨n1, n2, P.map (·.1)⟩, .slice ho P.length hc, P⟩) := one_px wc ⟨⟨n1, n2, P.map (·.1)⟩, .slice ho P.length hc, P⟩
      have HMq : Hid (∀ q : RdZ wc R (.slice lo L.length lc) st', zN L st' < zN L (.ok p)) := (by
        intro q
        cases st' with
        | error e => show 0 < L.length - p + 1; omega
        | ok p3 =>
          have h := gPa_ok (gok16 hP) HEn.out
          show L.length - p3 + 1 < L.length - p + 1
          omega)
      have hFl : F.length + 1 ≤ 2199023255552 := by omega
      clear HEn hZ2 hRo hPq HIo
      unfold pxO at hRA hPA hownA hbase hrow
      dsimp only at hRA hPA hownA hbase hrow
      go_wp2_with (at_builtin; refine wpList_append_w _ (by kernel_rfl) (.tmp 48) (.tmp 50) 48 55 (.agg #[.string ⟨#[]⟩, .string ⟨#[]⟩, .slice none 0 0]) 3 56 rfl Tryz.underlying48 infoPx rfl (by decide) (by decide) w.heap.size _ _ _ rfl hownA _ 1 (pxC ⟨⟨n1, n2, P.map (·.1)⟩, .slice ho P.length hc, P⟩) rfl hrow rfl (fun u hu => by simp [pxC] at hu; rcases hu with rfl | rfl | rfl <;> rfl) hFl hbase ?_)
      intro v9 u9 ho9 hg9 _
      have hR9 := hRA.more hPA hg9 ho9
      obtain ⟨o9, c9, rfl⟩ := (holds_of ho9).form
      have HM9 := HMq.out hRq.rd
      clear hRA hPA hownA hbase hrow ho9 hg9 t0 t1 t2
      go_wp2
      go_roundw
      case rel => exact ⟨F ++ [⟨⟨n1, n2, P.map (·.1)⟩, .slice ho P.length hc, P⟩], st', f0 - 1, o9, c9, by rw [List.length_append]; rfl, hR9, HO9⟩
      case measure =>
        rw [zW_of hR9.rd, HK0.out]
        exact HM9
    | ok p' =>
    unfold feS at c3
    dsimp only at c3
    obtain ⟨gd, hgd⟩ : ∃ g, (decide (P.map (·.1) = []) || pkG atR (L.drop p')) = g := ⟨_, rfl⟩
    go_upto_region 9 with fail
    go_cut [37] from 22 to 47 (fun cv wz => cv = .bool gd ∧ Pzr wb R S (.slice lo L.length lc) n1 n2 (.slice ho P.length hc) P (.ok p') wz)
    case first =>
      by_cases hP0 : P = []
      · have z1 : ((P.length : Int) == 0) = true := (by rw [hP0]; rfl)
        have HE : Hid (true = gd) := (by rw [hP0] at hgd; exact hgd)
        clear hP0 hgd
        go_wp2
        go_meet
        case rel => exact ⟨by rw [← HE.out], hZ⟩
      · have z1 : ((P.length : Int) == 0) = false := (by rw [beq_eq_false_iff_ne]; intro e; exact hP0 (List.eq_nil_of_length_eq_zero (by omega)))
        have hat := gPeek_f atR wr hZ.rd hLr hs (by decide) gd (show Hid (pkZ atR L (.ok p') = gd) by show pkG _ _ = _; rw [← hgd, decide_eq_false (by simpa using hP0), Bool.false_or])
        clear hP0 hgd
        go_wp2_with fail
        refine hat.mono ?_
        rintro e w9 ⟨rfl, nn, rfl⟩
        have hZ2 := hZ.keep (below_drewN (Below.refl _ _) nn)
        go_wp2
        go_meet
        case rel => exact ⟨rfl, hZ2⟩
    case rest =>
    obtain ⟨rfl, hZ2⟩ := hcut
    clear hZ c0 c1 c2 c3 hLr
    cases gd with
    | false =>
      have HEn : Hid (gEn n1 n2 (P.map (·.1)) (gPa uhZ atR [45, 45, 45, 32] [43, 43, 43, 32] L F.length p) (.ok p')) := (by
        show _ = _
        have h : gLf uhZ atR L (P.map (·.1)) f p' = Y := HI.out.1
        rw [HYZ.out, ← h, gLf_no hgd]
        rfl)
      generalize hst' : (Except.ok p' : Except (Nat × Int) Nat) = st' at hZ2 HEn
      clear hst' HI HK hgd HYZ
      go_upto_region 11 with fail
      rw [← show (F.map (·.x)).length = F.length from List.length_map _] at HEn
      obtain ⟨hRq, hPq⟩ := hRo.inner hZ2
      obtain ⟨t0, t1, t2⟩ := hZ2.cells
      have HO9 : Hid (gOt uhZ atR [45, 45, 45, 32] [43, 43, 43, 32] L ((F ++ [(⟨⟨n1, n2, P.map (·.1)⟩, .slice ho P.length hc, P⟩ : Pfd)]).map (·.x)) (f0 - 1) X st') := (by
        have h := gOt_next (gok16 hP) hpl HIo.out (n1 := n1) (n2 := n2) (hs := P.map (·.1)) HEn.out
        show gOt _ _ _ _ _ _ _ _ _
        rw [List.map_append]
        exact h)
      have hRA := hRq.keep ((Below.refl _ wc).alloc (Nat.le_refl _) (pxO ⟨⟨n1, n2, P.map (·.1)⟩, .slice ho P.length hc, P⟩))
      have hPA := hPq.keep ((Below.refl _ wc).alloc (Nat.le_refl _) (pxO ⟨⟨n1, n2, P.map (·.1)⟩, .slice ho P.length hc, P⟩))
      have hownA := hRA.pw.own
      have hbase := hRA.pw.low.size
      have hrow : Holds _ _ 1 (pxC ⟨⟨n1, n2, P.map (·.1)⟩, .slice ho P.length hc, P⟩) := one_px wc ⟨⟨n1, n2, P.map (·.1)⟩, .slice ho P.length hc, P⟩
      have HMq : Hid (∀ q : RdZ wc R (.slice lo L.length lc) st', zN L st' < zN L (.ok p)) := (by
        intro q
        cases st' with
        | error e => show 0 < L.length - p + 1; omega
        | ok p3 =>
          have h := gPa_ok (gok16 hP) HEn.out
          show L.length - p3 + 1 < L.length - p + 1
          omega)
      have hFl : F.length + 1 ≤ 2199023255552 := by omega
      clear HEn hZ2 hRo hPq HIo
      unfold pxO at hRA hPA hownA hbase hrow
      dsimp only at hRA hPA hownA hbase hrow
      go_wp2_with (at_builtin; refine wpList_append_w _ (by kernel_rfl) (.tmp 48) (.tmp 50) 48 55 (.agg #[.string ⟨#[]⟩, .string ⟨#[]⟩, .slice none 0 0]) 3 56 rfl Tryz.underlying48 infoPx rfl (by decide) (by decide) w.heap.size _ _ _ rfl hownA _ 1 (pxC ⟨⟨n1, n2, P.map (·.1)⟩, .slice ho P.length hc, P⟩) rfl hrow rfl (fun u hu => by simp [pxC] at hu; rcases hu with rfl | rfl | rfl <;> rfl) hFl hbase ?_)
      intro v9 u9 ho9 hg9 _
      have hR9 := hRA.more hPA hg9 ho9
      obtain ⟨o9, c9, rfl⟩ := (holds_of ho9).form
      have HM9 := HMq.out hRq.rd
      clear hRA hPA hownA hbase hrow ho9 hg9 t0 t1 t2
      go_wp2
      go_roundw
      case rel => exact ⟨F ++ [⟨⟨n1, n2, P.map (·.1)⟩, .slice ho P.length hc, P⟩], st', f0 - 1, o9, c9, by rw [List.length_append]; rfl, hR9, HO9⟩
      case measure =>
        rw [zW_of hR9.rd, HK0.out]
        exact HM9
    | true =>
      have hI : gLf uhZ atR L (P.map (·.1)) f p' = Y ∧ p' ≤ L.length ∧ L.length < f + p' ∧ (P.map (·.1)).length ≤ p' := HI.out
      rw [List.length_map] at hI
      obtain ⟨hI1, hI2, hI3, hI4⟩ := hI
      obtain ⟨f', rfl⟩ : ∃ f', f = f' + 1 := ⟨f - 1, by omega⟩
      rw [gLf_go hgd, List.length_map] at hI1
      obtain ⟨Yh, hYh⟩ : ∃ Y, uhZ P.length L p' = Y := ⟨_, rfl⟩
      rw [hYh] at hI1
      have hZd := hZ2.keep (Below.drew (Below.refl _ _))
      have hch := rhunk6_f wc.drew hZd.rd (fun u hu => HLu.out u (grown_blk hZd.gr hu)) hne hP hI2 (by omega) hs (by omega) Yh hYh
      obtain ⟨Rr, hRr⟩ : ∃ Rr : Value → World → Prop, (fun v u => ∃ (h : Hk) (st2 : Except (Nat × Int) Nat) (vo : Option Addr) (vc : Nat), (∀ y : Value, Hid (gSt uhZ atR L ((P ++ [(h, y)]).map (·.1)) f' Y st2) ∧ ∀ u2, RdZ u2 R (.slice lo L.length lc) st2 → zW L u2 R < zW L wr R) ∧ v = hkV h (.slice vo h.ls.length vc) ∧ Pzr wb R S (.slice lo L.length lc) n1 n2 (.slice ho P.length hc) P st2 u ∧ u.ownsRow wb.heap.size 103 2 (.slice vo h.ls.length vc) h.ls.length (mkcells h.ls)) = Rr := ⟨_, rfl⟩
      have hcall : Calls Tryz.prog 71 (#[.pointer (some ⟨R, 0, none⟩), .int .i64 (P.length : Int)] ++ #[]) wc.drew fun e w' => (∃ v, e = .returned v ∧ True ∧ Rr v w') ∨ (∃ c, e = .panicked c ∧ False) := (by
        refine hch.mono ?_
        rintro e w' ⟨h, v', rfl, hown, hgr, hks⟩
        rw [← hRr]
        obtain ⟨vo, vc, rfl⟩ := (holds_of hown).form
        cases Yh with
        | error z =>
          refine .inl ⟨_, rfl, trivial, h, .error z, vo, vc, fun y => ⟨hI1.symm, fun u2 q2 => ?_⟩, rfl, hZd.call hgr hks, own_base hown hZd.gr.size⟩
          rw [zW_of q2, HK.out]
          show 0 < L.length - p' + 1
          omega
        | ok z =>
          obtain ⟨h1, p2⟩ := z
          obtain ⟨rfl, q⟩ := hks
          have hgo := (gok16 hP) _ _ _ _ hYh
          refine .inl ⟨_, rfl, trivial, h, .ok p2, vo, vc, fun y => ⟨⟨by rw [List.map_append]; exact hI1, hgo.2, by omega, by rw [List.length_map, List.length_append]; simp; omega⟩, fun u2 q2 => ?_⟩, rfl, hZd.call hgr q, own_base hown hZd.gr.size⟩
          rw [zW_of q2, HK.out]
          show L.length - p2 + 1 < L.length - p' + 1
          omega)
      have HRr : Hid (_ = Rr) := hRr
      clear hRr hch hYh HI hgd hI1 hI3
      go_upto_region 10 with fail
      refine wp_region_held_drew (S := fun _ => True) (by kernel_rfl) trivial (fun _ => ?_)
      generalize wc.drew = wd at hZd hcall ⊢
      have c2d := hZd.cells.2.2
      refine go_take 0 38 _ (.pointer (some ⟨S, 2, none⟩)) rfl (by kernel_rfl) (by kernel_rfl) (by kernel_rfl) (by kernel_rfl) (fun _ _ _ h => h) (Or.inl ⟨by kernel_rfl, fun u hu => by kernel_rfl⟩) trivial ?_
      simp only [Act.put, List.setIfInBounds_toArray, List.set_cons_zero, List.set_cons_succ]
      refine go_take 2 40 _ (.pointer (some ⟨R, 0, none⟩)) rfl (by kernel_rfl) (by kernel_rfl) (by kernel_rfl) (by kernel_rfl) (fun _ _ _ h => h) (Or.inl ⟨by kernel_rfl, fun u hu => by kernel_rfl⟩) trivial ?_
      simp only [Act.put, List.setIfInBounds_toArray, List.set_cons_zero, List.set_cons_succ]
      refine go_take 3 41 _ (.pointer (some ⟨S, 2, none⟩)) rfl (by kernel_rfl) (by kernel_rfl) (by kernel_rfl) (by kernel_rfl) (fun _ _ _ h => h) (Or.inl ⟨by kernel_rfl, fun u hu => by kernel_rfl⟩) trivial ?_
      simp only [Act.put, List.setIfInBounds_toArray, List.set_cons_zero, List.set_cons_succ]
      refine go_two 1 39 _ 4 42 _ rfl (by kernel_rfl) rfl (by kernel_rfl) (by kernel_rfl) (by kernel_rfl) (by kernel_rfl) (.slice ho P.length hc) wd (load_hksR c2d (.tmp 38) (by kernel_rfl) (by kernel_rfl)) trivial (.slice ho P.length hc) wd (load_hksR c2d (.tmp 41) (by kernel_rfl) (by kernel_rfl)) trivial ?_ ?_
      · simp only [Act.put, List.setIfInBounds_toArray, List.set_cons_zero, List.set_cons_succ]
        refine go_val 4 42 _ rfl (by kernel_rfl) (by kernel_rfl) (by kernel_rfl) (.slice ho P.length hc) wd (load_hksR c2d (.tmp 41) (by kernel_rfl) (by kernel_rfl)) trivial ?_
        simp only [Act.put, List.setIfInBounds_toArray, List.set_cons_zero, List.set_cons_succ]
        refine go_take 5 43 _ (.int .i64 (P.length : Int)) rfl (by kernel_rfl) (by kernel_rfl) (by kernel_rfl) (by kernel_rfl) (fun _ _ _ h => h) (Or.inl ⟨by kernel_rfl, fun u hu => by kernel_rfl⟩) trivial ?_
        simp only [Act.put, List.setIfInBounds_toArray, List.set_cons_zero, List.set_cons_succ]
        refine go_callR 6 44 _ rfl (by kernel_rfl) (by kernel_rfl) (by kernel_rfl) 71 (.func 71) #[.tmp 40, .tmp 43] #[107, 3] (by kernel_rfl) #[] (by kernel_rfl) #[.pointer (some ⟨R, 0, none⟩), .int .i64 (P.length : Int)] (by kernel_rfl) (enters_of Tryz.func71 (by kernel_rfl) rfl) Rr (fun _ _ => False) (fun _ _ h => h.elim) ?_ ?_
        · exact hcall
        intro v0 u1 _ hq
        rw [← HRr.out] at hq
        obtain ⟨h, st2, vo, vc, hk2, rfl, hR1, hown1⟩ := hq
        have c1u := hR1.cells.2.2
        have hRA := hR1.keep ((Below.refl _ u1).alloc (Nat.le_refl _) (hkO h (.slice vo h.ls.length vc)))
        have c2u := hRA.cells.2.2
        simp only [Act.put, List.setIfInBounds_toArray, List.set_cons_zero, List.set_cons_succ]
        refine go_val 7 45 _ rfl (by kernel_rfl) (by kernel_rfl) (by kernel_rfl) (.slice (some ⟨u1.heap.size, 0, none⟩) 1 1) (u1.alloc (hkO h (.slice vo h.ls.length vc))) (by kernel_rfl) trivial ?_
        simp only [Act.put, List.setIfInBounds_toArray, List.set_cons_zero, List.set_cons_succ]
        have hownA := hown1.alloc (hkO h (.slice vo h.ls.length vc))
        obtain ⟨v3, u3, hr3, hown3, hg3, _⟩ := run_append_w (u1.alloc (hkO h (.slice vo h.ls.length vc))) 34 59 34 (.agg #[.int .i64 0, .int .i64 0, .int .i64 0, .int .i64 0, .slice none 0 0]) 5 56 Tryz.underlying34 infoHk rfl (by decide) (by decide) wb.heap.size _ _ _ hRA.own _ 1 (hkC h (.slice vo h.ls.length vc)) (one_row u1 h (.slice vo h.ls.length vc)) rfl (fun u hu => by simp [hkC] at hu; rcases hu with rfl | rfl | rfl | rfl | rfl <;> rfl) (by omega) hRA.gr.size
        have hR3 := hRA.more hownA hg3 hown3
        obtain ⟨o3, k3, rfl⟩ := (holds_of hown3).form
        refine go_val 8 46 _ rfl (by kernel_rfl) (by kernel_rfl) (by kernel_rfl) (.slice o3 (P.length + 1) k3) u3 (exec_app (.tmp 39) (.tmp 45) (by kernel_rfl) (by kernel_rfl) (by kernel_rfl) hr3) trivial ?_
        simp only [Act.put, List.setIfInBounds_toArray, List.set_cons_zero, List.set_cons_succ]
        refine go_take 9 47 _ (.pointer (some ⟨S, 2, none⟩)) rfl (by kernel_rfl) (by kernel_rfl) (by kernel_rfl) (by kernel_rfl) (fun _ _ _ h => h) (Or.inl ⟨by kernel_rfl, fun u hu => by kernel_rfl⟩) trivial ?_
        simp only [Act.put, List.setIfInBounds_toArray, List.set_cons_zero, List.set_cons_succ]
        refine go_skip 10 _ rfl (by kernel_rfl) (by kernel_rfl) (by kernel_rfl) (u3.setCell ⟨S, 2, none⟩ (.slice o3 (P.length + 1) k3)) (exec_storeHR hR3.2.1 hR3.2.2 (.tmp 47) (.tmp 46) (by kernel_rfl) (by kernel_rfl) (by kernel_rfl)) trivial ?_
        refine wpAnyH_done (by kernel_rfl) ?_ _
        have hR4 := hR3.1
        have hk3 := hk2 (.slice vo h.ls.length vc)
        go_wp2
        refine ⟨⟨_, P ++ [(h, .slice vo h.ls.length vc)], st2, f', ⟨o3, k3, by rw [List.length_append]; rfl⟩, hR4, by rw [List.length_append]; simp; omega, hk3.1⟩, ?_⟩
        have h9 := hk3.2 _ hR4.rd
        omega
      · simp only [Act.put, List.setIfInBounds_toArray, List.set_cons_zero, List.set_cons_succ]
        refine go_take 5 43 _ (.int .i64 (P.length : Int)) rfl (by kernel_rfl) (by kernel_rfl) (by kernel_rfl) (by kernel_rfl) (fun _ _ _ h => h) (Or.inl ⟨by kernel_rfl, fun u hu => by kernel_rfl⟩) trivial ?_
        simp only [Act.put, List.setIfInBounds_toArray, List.set_cons_zero, List.set_cons_succ]
        refine go_valCallR 1 39 _ 6 44 _ rfl (by kernel_rfl) rfl (by kernel_rfl) (by kernel_rfl) (by kernel_rfl) (by kernel_rfl) (.slice ho P.length hc) wd (load_hksR c2d (.tmp 38) (by kernel_rfl) (by kernel_rfl)) trivial 71 (.func 71) #[.tmp 40, .tmp 43] #[107, 3] (by kernel_rfl) #[] (by kernel_rfl) #[.pointer (some ⟨R, 0, none⟩), .int .i64 (P.length : Int)] (by kernel_rfl) (enters_of Tryz.func71 (by kernel_rfl) rfl) Rr (fun _ _ => False) (fun _ _ h => h.elim) ?_ ?_ ?_
        · exact hcall
        · simp only [Act.put, List.setIfInBounds_toArray, List.set_cons_zero, List.set_cons_succ]
          refine go_callR 6 44 _ rfl (by kernel_rfl) (by kernel_rfl) (by kernel_rfl) 71 (.func 71) #[.tmp 40, .tmp 43] #[107, 3] (by kernel_rfl) #[] (by kernel_rfl) #[.pointer (some ⟨R, 0, none⟩), .int .i64 (P.length : Int)] (by kernel_rfl) (enters_of Tryz.func71 (by kernel_rfl) rfl) Rr (fun _ _ => False) (fun _ _ h => h.elim) ?_ ?_
          · exact hcall
          intro v0 u1 _ hq
          rw [← HRr.out] at hq
          obtain ⟨h, st2, vo, vc, hk2, rfl, hR1, hown1⟩ := hq
          have c1u := hR1.cells.2.2
          have hRA := hR1.keep ((Below.refl _ u1).alloc (Nat.le_refl _) (hkO h (.slice vo h.ls.length vc)))
          have c2u := hRA.cells.2.2
          simp only [Act.put, List.setIfInBounds_toArray, List.set_cons_zero, List.set_cons_succ]
          refine go_val 7 45 _ rfl (by kernel_rfl) (by kernel_rfl) (by kernel_rfl) (.slice (some ⟨u1.heap.size, 0, none⟩) 1 1) (u1.alloc (hkO h (.slice vo h.ls.length vc))) (by kernel_rfl) trivial ?_
          simp only [Act.put, List.setIfInBounds_toArray, List.set_cons_zero, List.set_cons_succ]
          have hownA := hown1.alloc (hkO h (.slice vo h.ls.length vc))
          obtain ⟨v3, u3, hr3, hown3, hg3, _⟩ := run_append_w (u1.alloc (hkO h (.slice vo h.ls.length vc))) 34 59 34 (.agg #[.int .i64 0, .int .i64 0, .int .i64 0, .int .i64 0, .slice none 0 0]) 5 56 Tryz.underlying34 infoHk rfl (by decide) (by decide) wb.heap.size _ _ _ hRA.own _ 1 (hkC h (.slice vo h.ls.length vc)) (one_row u1 h (.slice vo h.ls.length vc)) rfl (fun u hu => by simp [hkC] at hu; rcases hu with rfl | rfl | rfl | rfl | rfl <;> rfl) (by omega) hRA.gr.size
          have hR3 := hRA.more hownA hg3 hown3
          obtain ⟨o3, k3, rfl⟩ := (holds_of hown3).form
          refine go_val 8 46 _ rfl (by kernel_rfl) (by kernel_rfl) (by kernel_rfl) (.slice o3 (P.length + 1) k3) u3 (exec_app (.tmp 39) (.tmp 45) (by kernel_rfl) (by kernel_rfl) (by kernel_rfl) hr3) trivial ?_
          simp only [Act.put, List.setIfInBounds_toArray, List.set_cons_zero, List.set_cons_succ]
          refine go_take 9 47 _ (.pointer (some ⟨S, 2, none⟩)) rfl (by kernel_rfl) (by kernel_rfl) (by kernel_rfl) (by kernel_rfl) (fun _ _ _ h => h) (Or.inl ⟨by kernel_rfl, fun u hu => by kernel_rfl⟩) trivial ?_
          simp only [Act.put, List.setIfInBounds_toArray, List.set_cons_zero, List.set_cons_succ]
          refine go_skip 10 _ rfl (by kernel_rfl) (by kernel_rfl) (by kernel_rfl) (u3.setCell ⟨S, 2, none⟩ (.slice o3 (P.length + 1) k3)) (exec_storeHR hR3.2.1 hR3.2.2 (.tmp 47) (.tmp 46) (by kernel_rfl) (by kernel_rfl) (by kernel_rfl)) trivial ?_
          refine wpAnyH_done (by kernel_rfl) ?_ _
          have hR4 := hR3.1
          have hk3 := hk2 (.slice vo h.ls.length vc)
          go_wp2
          refine ⟨⟨_, P ++ [(h, .slice vo h.ls.length vc)], st2, f', ⟨o3, k3, by rw [List.length_append]; rfl⟩, hR4, by rw [List.length_append]; simp; omega, hk3.1⟩, ?_⟩
          have h9 := hk3.2 _ hR4.rd
          omega
        · intro v0 u1 _ hq
          rw [← HRr.out] at hq
          obtain ⟨h, st2, vo, vc, hk2, rfl, hR1, hown1⟩ := hq
          have c1u := hR1.cells.2.2
          have hRA := hR1.keep ((Below.refl _ u1).alloc (Nat.le_refl _) (hkO h (.slice vo h.ls.length vc)))
          have c2u := hRA.cells.2.2
          simp only [Act.put, List.setIfInBounds_toArray, List.set_cons_zero, List.set_cons_succ]
          refine go_two 1 39 _ 7 45 _ rfl (by kernel_rfl) rfl (by kernel_rfl) (by kernel_rfl) (by kernel_rfl) (by kernel_rfl) (.slice ho P.length hc) u1 (load_hksR c1u (.tmp 38) (by kernel_rfl) (by kernel_rfl)) trivial (.slice (some ⟨u1.heap.size, 0, none⟩) 1 1) (u1.alloc (hkO h (.slice vo h.ls.length vc))) (by kernel_rfl) trivial ?_ ?_
          · simp only [Act.put, List.setIfInBounds_toArray, List.set_cons_zero, List.set_cons_succ]
            refine go_val 7 45 _ rfl (by kernel_rfl) (by kernel_rfl) (by kernel_rfl) (.slice (some ⟨u1.heap.size, 0, none⟩) 1 1) (u1.alloc (hkO h (.slice vo h.ls.length vc))) (by kernel_rfl) trivial ?_
            simp only [Act.put, List.setIfInBounds_toArray, List.set_cons_zero, List.set_cons_succ]
            have hownA := hown1.alloc (hkO h (.slice vo h.ls.length vc))
            obtain ⟨v3, u3, hr3, hown3, hg3, _⟩ := run_append_w (u1.alloc (hkO h (.slice vo h.ls.length vc))) 34 59 34 (.agg #[.int .i64 0, .int .i64 0, .int .i64 0, .int .i64 0, .slice none 0 0]) 5 56 Tryz.underlying34 infoHk rfl (by decide) (by decide) wb.heap.size _ _ _ hRA.own _ 1 (hkC h (.slice vo h.ls.length vc)) (one_row u1 h (.slice vo h.ls.length vc)) rfl (fun u hu => by simp [hkC] at hu; rcases hu with rfl | rfl | rfl | rfl | rfl <;> rfl) (by omega) hRA.gr.size
            have hR3 := hRA.more hownA hg3 hown3
            obtain ⟨o3, k3, rfl⟩ := (holds_of hown3).form
            refine go_val 8 46 _ rfl (by kernel_rfl) (by kernel_rfl) (by kernel_rfl) (.slice o3 (P.length + 1) k3) u3 (exec_app (.tmp 39) (.tmp 45) (by kernel_rfl) (by kernel_rfl) (by kernel_rfl) hr3) trivial ?_
            simp only [Act.put, List.setIfInBounds_toArray, List.set_cons_zero, List.set_cons_succ]
            refine go_take 9 47 _ (.pointer (some ⟨S, 2, none⟩)) rfl (by kernel_rfl) (by kernel_rfl) (by kernel_rfl) (by kernel_rfl) (fun _ _ _ h => h) (Or.inl ⟨by kernel_rfl, fun u hu => by kernel_rfl⟩) trivial ?_
            simp only [Act.put, List.setIfInBounds_toArray, List.set_cons_zero, List.set_cons_succ]
            refine go_skip 10 _ rfl (by kernel_rfl) (by kernel_rfl) (by kernel_rfl) (u3.setCell ⟨S, 2, none⟩ (.slice o3 (P.length + 1) k3)) (exec_storeHR hR3.2.1 hR3.2.2 (.tmp 47) (.tmp 46) (by kernel_rfl) (by kernel_rfl) (by kernel_rfl)) trivial ?_
            refine wpAnyH_done (by kernel_rfl) ?_ _
            have hR4 := hR3.1
            have hk3 := hk2 (.slice vo h.ls.length vc)
            go_wp2
            refine ⟨⟨_, P ++ [(h, .slice vo h.ls.length vc)], st2, f', ⟨o3, k3, by rw [List.length_append]; rfl⟩, hR4, by rw [List.length_append]; simp; omega, hk3.1⟩, ?_⟩
            have h9 := hk3.2 _ hR4.rd
            omega
          · simp only [Act.put, List.setIfInBounds_toArray, List.set_cons_zero, List.set_cons_succ]
            refine go_val 1 39 _ rfl (by kernel_rfl) (by kernel_rfl) (by kernel_rfl) (.slice ho P.length hc) (u1.alloc (hkO h (.slice vo h.ls.length vc))) (load_hksR c2u (.tmp 38) (by kernel_rfl) (by kernel_rfl)) trivial ?_
            simp only [Act.put, List.setIfInBounds_toArray, List.set_cons_zero, List.set_cons_succ]
            have hownA := hown1.alloc (hkO h (.slice vo h.ls.length vc))
            obtain ⟨v3, u3, hr3, hown3, hg3, _⟩ := run_append_w (u1.alloc (hkO h (.slice vo h.ls.length vc))) 34 59 34 (.agg #[.int .i64 0, .int .i64 0, .int .i64 0, .int .i64 0, .slice none 0 0]) 5 56 Tryz.underlying34 infoHk rfl (by decide) (by decide) wb.heap.size _ _ _ hRA.own _ 1 (hkC h (.slice vo h.ls.length vc)) (one_row u1 h (.slice vo h.ls.length vc)) rfl (fun u hu => by simp [hkC] at hu; rcases hu with rfl | rfl | rfl | rfl | rfl <;> rfl) (by omega) hRA.gr.size
            have hR3 := hRA.more hownA hg3 hown3
            obtain ⟨o3, k3, rfl⟩ := (holds_of hown3).form
            refine go_val 8 46 _ rfl (by kernel_rfl) (by kernel_rfl) (by kernel_rfl) (.slice o3 (P.length + 1) k3) u3 (exec_app (.tmp 39) (.tmp 45) (by kernel_rfl) (by kernel_rfl) (by kernel_rfl) hr3) trivial ?_
            simp only [Act.put, List.setIfInBounds_toArray, List.set_cons_zero, List.set_cons_succ]
            refine go_take 9 47 _ (.pointer (some ⟨S, 2, none⟩)) rfl (by kernel_rfl) (by kernel_rfl) (by kernel_rfl) (by kernel_rfl) (fun _ _ _ h => h) (Or.inl ⟨by kernel_rfl, fun u hu => by kernel_rfl⟩) trivial ?_
            simp only [Act.put, List.setIfInBounds_toArray, List.set_cons_zero, List.set_cons_succ]
            refine go_skip 10 _ rfl (by kernel_rfl) (by kernel_rfl) (by kernel_rfl) (u3.setCell ⟨S, 2, none⟩ (.slice o3 (P.length + 1) k3)) (exec_storeHR hR3.2.1 hR3.2.2 (.tmp 47) (.tmp 46) (by kernel_rfl) (by kernel_rfl) (by kernel_rfl)) trivial ?_
            refine wpAnyH_done (by kernel_rfl) ?_ _
            have hR4 := hR3.1
            have hk3 := hk2 (.slice vo h.ls.length vc)
            go_wp2
            refine ⟨⟨_, P ++ [(h, .slice vo h.ls.length vc)], st2, f', ⟨o3, k3, by rw [List.length_append]; rfl⟩, hR4, by rw [List.length_append]; simp; omega, hk3.1⟩, ?_⟩
            have h9 := hk3.2 _ hR4.rd
            omega
end Go.Proofs.YtgiojkhmkeocfaaGreatDoor
