/-
  The longest rising row, by the reference: rises, Longest, walked.
-/
import Derived.Test.YtppdcjjkkckokaaPaUq
import Derived.Test.YtppdcjjkkckokaaMiTb
namespace Go.Proofs.Ytppdcjjkkckokaa
open Go.RowKit

theorem rl_drop (l : List Pr) (k : Nat) : (rl l).drop k = rl (l.drop k) := by
  induction l generalizing k with
  | nil => simp [rl]
  | cons p t ih =>
    cases k with
    | zero => rfl
    | succ k => rw [rl, List.drop_succ_cons, List.drop_succ_cons, ih]
theorem rl_at (l : List Pr) (i : Nat) (hi : i < l.length) (hr : i < (rl l).length) : (rl l)[i] = mxl l[i] (l.drop (i + 1)) ((rl l).drop (i + 1)) + 1 := by
  have h := rl_drop l i
  rw [List.drop_eq_getElem_cons hi, rl, List.drop_eq_getElem_cons hr] at h
  have := (List.cons.inj h).1
  rw [this, rl_drop]
theorem rl_pos (l : List Pr) : ∀ n ∈ rl l, 0 < n := by
  induction l with
  | nil => simp [rl]
  | cons p t ih =>
    intro n hn
    rw [rl, List.mem_cons] at hn
    rcases hn with rfl | hn
    · omega
    · exact ih n hn
theorem mxl_le (p : Pr) (t : List Pr) (ns : List Nat) (N : Nat) (h : ∀ n ∈ ns, n ≤ N) : mxl p t ns ≤ N := by
  induction t generalizing ns with
  | nil => simp [mxl]
  | cons a t ih =>
    cases ns with
    | nil => simp [mxl]
    | cons n ns =>
      rw [mxl]
      have h1 := ih ns (fun m hm => h m (List.mem_cons_of_mem _ hm))
      have h2 := h n (List.mem_cons_self ..)
      split <;> omega
theorem rl_le (l : List Pr) : ∀ n ∈ rl l, n ≤ l.length := by
  induction l with
  | nil => simp [rl]
  | cons p t ih =>
    intro n hn
    rw [rl, List.mem_cons] at hn
    rw [List.length_cons]
    rcases hn with rfl | hn
    · have := mxl_le p t (rl t) t.length ih
      omega
    · have := ih n hn
      omega
theorem mxn_le (ns : List Nat) (N : Nat) (h : ∀ n ∈ ns, n ≤ N) : mxn ns ≤ N := by
  induction ns with
  | nil => simp [mxn]
  | cons n ns ih =>
    rw [mxn]
    have h1 := ih (fun m hm => h m (List.mem_cons_of_mem _ hm))
    have h2 := h n (List.mem_cons_self ..)
    omega
theorem pick_zero (last : Option Pr) (l : List Pr) (ns : List Nat) (h : ∀ n ∈ ns, 0 < n) : pick 0 last l ns = [] := by
  induction l generalizing ns last with
  | nil => simp [pick]
  | cons p l ih =>
    cases ns with
    | nil => simp [pick]
    | cons n ns =>
      have := h n (List.mem_cons_self ..)
      rw [pick, if_neg (by omega)]
      exact ih last ns (fun m hm => h m (List.mem_cons_of_mem _ hm))
theorem pick_length (left : Nat) (last : Option Pr) (l : List Pr) (ns : List Nat) : (pick left last l ns).length ≤ l.length := by
  induction l generalizing ns last left with
  | nil => simp [pick]
  | cons p l ih =>
    cases ns with
    | nil => simp [pick]
    | cons n ns =>
      rw [pick]
      split
      · have := ih (left - 1) (some p) ns
        simp only [List.length_cons]
        omega
      · have := ih left last ns
        simp only [List.length_cons]
        omega
theorem pick_step (left : Nat) (last : Option Pr) (l : List Pr) (R : List Nat) (i : Nat) (hi : i < l.length) (hr : i < R.length) : pick left last (l.drop i) (R.drop i) = if R[i] = left ∧ (∀ q, last = some q → ab l[i] q) then l[i] :: pick (left - 1) (some l[i]) (l.drop (i + 1)) (R.drop (i + 1)) else pick left last (l.drop (i + 1)) (R.drop (i + 1)) := by
  rw [List.drop_eq_getElem_cons hi, List.drop_eq_getElem_cons hr, pick]
theorem mxl_step (p : Pr) (l : List Pr) (R : List Nat) (i : Nat) (hi : i < l.length) (hr : i < R.length) : mxl p (l.drop i) (R.drop i) = if ab l[i] p then max R[i] (mxl p (l.drop (i + 1)) (R.drop (i + 1))) else mxl p (l.drop (i + 1)) (R.drop (i + 1)) := by
  rw [List.drop_eq_getElem_cons hi, List.drop_eq_getElem_cons hr, mxl]

theorem rises_f (a b : Pr) (r : Bool) (w : World) (hr : Hid (decide (ab b a) = r)) :
    Calls Try.prog 49 #[prV a, prV b] w fun e w' => e = .returned (.bool r) ∧ Below w.heap.size w w' := by
  obtain ⟨ax, ay⟩ := a
  obtain ⟨bx, by'⟩ := b
  unfold prV
  have h := hr.out
  unfold ab at h
  dsimp only at h
  go_enter Try.func49, Try.ntmps49
  subst h
  clear hr
  by_cases h1 : ax < bx
  · go_wp2
    go_ret
    exact ⟨ret_bool (by simp [h1]), ((Below.refl _ w).alloc (Nat.le_refl _) _).alloc (by simp) _⟩
  · go_wp2
    go_ret
    exact ⟨ret_bool (by simp; exact decide_eq_false (by omega)), ((Below.refl _ w).alloc (Nat.le_refl _) _).alloc (by simp) _⟩

theorem rises_low (a b : Pr) (r : Bool) (W u : World) (hr : Hid (decide (ab b a) = r)) (hL : Low W u) :
    Calls Try.prog 49 #[prV a, prV b] u fun e w' => e = .returned (.bool r) ∧ Low W w' := by
  refine (rises_f a b r u hr).mono ?_
  rintro e w' ⟨rfl, h⟩
  exact ⟨rfl, Below.trans hL (h.mono (Below.size hL))⟩
/-- the lengths from k on stand there -/
def Dn (R : List Nat) (k : Nat) (Z : List Int) : Prop := Z.length = R.length ∧ ∀ j (hj : j < R.length), k ≤ j → Z[j]? = some ((R[j] : Nat) : Int)
theorem Dn.set {R : List Nat} {k : Nat} {Z : List Int} (h : Dn R (k + 1) Z) (hk : k < R.length) {m : Int} (hm : m = ((R[k] : Nat) : Int)) : Dn R k (Z.set k m) := by
  refine ⟨by rw [List.length_set]; exact h.1, fun j hj hkj => ?_⟩
  by_cases e : j = k
  · subst e
    rw [List.getElem?_set_self (by rw [h.1]; exact hj), hm]
  · rw [List.getElem?_set_ne (fun q => e q.symm)]
    exact h.2 j hj (by omega)
/-- the state of the walk -/
structure Ls (w : World) (g n : Nat) (Z : List Int) (u : World) : Prop where
  low : Below w.heap.size w u
  own : u.ownsRow w.heap.size 3 1 (.slice (some ⟨g, 0, none⟩) n n) n (icells Z)
theorem Ls.drewN {w u : World} {g n : Nat} {Z : List Int} (h : Ls w g n Z u) (k : Nat) : Ls w g n Z (u.drewN k) := ⟨Below.dN h.low k, h.own⟩
theorem Ls.keep {w u u' : World} {g n : Nat} {Z : List Int} (h : Ls w g n Z u) (hb : Below u.heap.size u u') : Ls w g n Z u' := ⟨h.low.trans (hb.mono h.low.size), owns_keep h.own hb⟩
theorem Ls.set {w u : World} {g n : Nat} {Z : List Int} (h : Ls w g n Z u) (k : Nat) (m : Int) : Ls w g n (Z.set k m) (u.setCell ⟨g, k, none⟩ (.int .i64 m)) := by
  obtain ⟨p1, g1⟩ := h.own.stored k (.int .i64 m)
  have e : (icells Z).set k (.int .i64 m) = icells (Z.set k m) := by simp [icells, List.map_set]
  rw [e] at p1
  exact ⟨h.low.grown g1 h.low.size (fun j hj => owns_ge h.own (by simpa [Value.ownBlock] using hj)), p1⟩
theorem Ls.len {w u : World} {g n : Nat} {Z : List Int} (h : Ls w g n Z u) : Z.length = n := by
  have := h.own.1
  rw [icells_length, Nat.mul_one] at this
  exact this
theorem Ls.at {w u : World} {g n : Nat} {Z : List Int} (h : Ls w g n Z u) {k : Nat} {z : Int} (hz : Z[k]? = some z) : u.cell? ⟨g, k, none⟩ = some (.int .i64 z) := by
  have hl := (List.getElem?_eq_some_iff.1 hz).1
  rw [h.len] at hl
  rw [h.own.cellAt k (by omega)]
  simp [icells, hz]
attribute [local simp] low_drew

set_option maxRecDepth 10000 in
set_option maxHeartbeats 4000000 in
theorem rLongest_f (l : List Pr) (v : Value) (w : World) (hl : HPr w v l) (hll : l.length ≤ 4096) (L : List Pr) (hL : Hid (lng l = L)) :
    Calls Try.prog 27 #[v] w fun e w' => ∃ v', e = .returned v' ∧ HPr w' v' L ∧ Below w.heap.size w w' := by
  obtain ⟨lo, lc, rfl⟩ := Holds.form hl
  obtain ⟨R, hR⟩ : ∃ R, rl l = R := ⟨_, rfl⟩
  have hRl : R.length = l.length := by rw [← hR]; exact rl_length l
  have hLl : L.length ≤ l.length := by rw [← hL.out]; exact pick_length _ _ _ _
  have HR : Hid (R.length = l.length ∧ (∀ n ∈ R, 0 < n ∧ n ≤ l.length) ∧ ∀ i (hi : i < l.length) (hr : i < R.length), R[i] = mxl l[i] (l.drop (i + 1)) (R.drop (i + 1)) + 1) := ⟨hRl, fun n hn => by rw [← hR] at hn; exact ⟨rl_pos l n hn, rl_le l n hn⟩, fun i hi hr => by subst hR; exact rl_at l i hi hr⟩
  have HLR : Hid (pick (mxn R) none l R = L) := (by show _ = _; rw [← hL.out, ← hR]; rfl)
  clear hR hRl hL
  have hmk := run_makeN (T := 29) Try.underlying29 infoInt (by decide) (l.length : Int) l.length rfl (by omega)
  have hrow := World.ownsRow_lit (base := w.heap.size) (e := 3) (size := 1) w (madeCells #[.int .i64 0] l.length) l.length (Nat.le_refl _) (by unfold maxLen; omega) (by rw [size_madeCells]; simp)
  rw [madeL] at hrow
  have hst : Ls w w.heap.size l.length (List.replicate l.length 0) (w.alloc (.cells (madeCells #[.int .i64 0] l.length) 3)) := ⟨(Below.refl _ w).alloc (Nat.le_refl _) _, by simpa [icells] using hrow⟩
  go_enter Try.func27, Try.ntmps27
  go_wp2
  go_loopw [4, 5] (fun mv iv wr => ∃ (k m : Nat) (z : Int) (Z : List Int), k ≤ l.length ∧ m ≤ l.length ∧ mv = .int .i64 m ∧ iv = .int .i64 z ∧ z + 1 = k ∧ Ls w w.heap.size l.length Z wr ∧ Hid (Dn R k Z ∧ mxn (R.drop k) = m)) (fun _ iv _ => (intOf iv + 1).toNat)
  case atStart => exact ⟨l.length, 0, (l.length : Int) - 1, _, Nat.le_refl _, Nat.zero_le _, rfl, by go_num, by omega, hst, ⟨by rw [HR.out.1]; simp, fun j hj h => by have := HR.out.1; omega⟩, by rw [← HR.out.1]; simp [mxn]⟩
  case round =>
    clear hst hrow hmk
    obtain ⟨k, m, z, Z, hk, hm, rfl, rfl, hz, hS, HD⟩ := hrel
    cases k with
    | zero =>
      obtain rfl : z = -1 := by omega
      have HPK : Hid (pick m none l R = L) := (by
        show _ = _
        rw [← HLR.out, ← HD.out.2]
        rfl)
      have HD0 : Hid (Dn R 0 Z) := HD.out.1
      clear hz HD HLR hk
      obtain ⟨W1, rfl⟩ : ∃ W1, W1 = wr := ⟨wr, rfl⟩
      go_wp2
      go_loopw [4, 7, 8] (fun mv ov iv wi => ∃ (i m : Nat) (X : List Pr) (oo : Option Addr) (oc : Nat), i ≤ l.length ∧ m ≤ l.length ∧ mv = .int .i64 m ∧ ov = .slice oo X.length oc ∧ iv = .int .i64 i ∧ Low W1 wi ∧ X.length ≤ L.length ∧ wi.ownsRow W1.heap.size 43 2 (.slice oo X.length oc) X.length (prcells X) ∧ Hid (X ++ pick m X.getLast? (l.drop i) (R.drop i) = L)) (fun _ _ iv _ => l.length - (intOf iv).toNat)
      case atStart => exact ⟨0, m, [], none, 0, Nat.zero_le _, hm, rfl, rfl, rfl, Below.refl _ _, Nat.zero_le _, World.ownsRow_nil _ _ _ _, HPK⟩
      case round =>
        obtain ⟨i, m, X, oo, oc, hi, hm, rfl, rfl, rfl, hLow, hXl, hO, HX⟩ := hrel
        have hfin : (l.length ≤ i ∨ m = 0) → X = L := by
          intro h
          have := HX.out
          rcases h with h | rfl
          · rw [show l.drop i = [] by rw [List.drop_eq_nil_iff]; omega] at this
            simpa [pick] using this
          · rw [pick_zero _ _ _ (fun n hn => (HR.out.2.1 n (List.mem_of_mem_drop hn)).1), List.append_nil] at this
            exact this
        by_cases hil : i < l.length
        · by_cases hm0 : m = 0
          · have e := hfin (.inr hm0)
            subst e
            clear hfin
            have hm1 : decide ((0 : Int) < (m : Int)) = false := decide_eq_false (by omega)
            subst hm0
            go_wp2
            go_ret
            exact ⟨_, rfl, holds_of hO, hS.low.trans (Below.mono hLow hS.low.size)⟩
          · obtain ⟨p, hp⟩ : ∃ p, l[i] = p := ⟨_, rfl⟩
            obtain ⟨ri, hri⟩ : ∃ r, R[i]'(by have := HR.out.1; omega) = r := ⟨_, rfl⟩
            have hZi : Z[i]? = some (ri : Int) := by rw [HD0.out.2 i (by have := HR.out.1; omega) (Nat.zero_le _), hri]
            have hrb := (HR.out.2.1 _ (List.getElem_mem (l := R) (n := i) (by have := HR.out.1; omega))).2
            rw [hri] at hrb
            have HXP : Hid (X ++ (if ri = m ∧ (∀ q, X.getLast? = some q → ab p q) then p :: pick (m - 1) (some p) (l.drop (i + 1)) (R.drop (i + 1)) else pick m X.getLast? (l.drop (i + 1)) (R.drop (i + 1))) = L) := (by
              have := HX.out
              rw [pick_step _ _ l R i hil (by have := HR.out.1; omega), hp, hri] at this
              exact this)
            have hBi : Below w.heap.size w wr := hS.low.trans (Below.mono hLow hS.low.size)
            obtain ⟨b, off, rfl, hbl, hc⟩ := HPr.at (HPr.keep hl hBi (Nat.le_refl _)) (by omega)
            obtain ⟨c0, c1⟩ := hc i hil
            rw [hp] at c0 c1
            have y0 := (hS.keep hLow).at hZi
            have i1 : 0 ≤ (i : Int) := by omega
            have i2 : (i : Int) < (l.length : Int) := by omega
            have hm1 : decide ((0 : Int) < (m : Int)) = true := decide_eq_true (by omega)
            have hs0 := Below.size hLow
            clear hc hp hri HX hfin
            by_cases hrm : ri = m
            · subst hrm
              have e1 : ((ri : Int) == (ri : Int)) = true := by simp
              by_cases hXe : X = []
              · subst hXe
                have HX2 : Hid (([] ++ [p]) ++ pick (ri - 1) (some p) (l.drop (i + 1)) (R.drop (i + 1)) = L) := (by
                  show _ = _
                  rw [← HXP.out, if_pos ⟨rfl, by simp⟩]
                  rfl)
                have hXl2 : 1 ≤ L.length := by rw [← HX2.out]; simp
                clear HXP
                go_wp2_with fail
                go_big_quiet (fail)
                have hOd : (wr.drewN nq).ownsRow W1.heap.size 43 2 (.slice oo 0 oc) 0 [] := hO
                have hLd : Low W1 (wr.drewN nq) := Below.dN hLow nq
                have c0' : (wr.drewN nq).cell? ⟨b, off + i * 2, none⟩ = some (.int .i64 p.X) := c0
                have c1' : (wr.drewN nq).cell? ⟨b, off + i * 2 + 1, none⟩ = some (.int .i64 p.Y) := c1
                generalize wr.drewN nq = wd at hOd hLd c0' c1' ⊢
                have hsd := Below.size hLd
                clear c0 c1 y0
                go_wp2_with (at_builtin; refine wpList_append_h _ (by kernel_rfl) (.tmp 92) (.tmp 97) 40 43 (.agg #[.int .i64 0, .int .i64 0]) 2 16 rfl Try.underlying40 infoQr rfl (by decide) (by decide) W1.heap.size (.slice oo 0 oc) 0 [] (by kernel_rfl) (hOd.alloc _) (.slice (some ⟨wd.heap.size, 0, none⟩) 1 1) 1 (prcells [p]) (by kernel_rfl) (new_holds wd _ _ 1 1 (by decide)) rfl (prcells_one _) (by omega) (by simp; omega) ?_)
                intro v3 w3 hown3 hgrow3
                have hB3 : Low W1 w3 := (Below.alloc hLd (Below.size hLd) _).grown hgrow3 (by simp; omega) (fun _ hj => owns_ge hOd hj)
                obtain ⟨oo3, oc3, rfl⟩ := (holds_of hown3).form
                clear hgrow3
                go_wp2
                go_roundw
                case rel => exact ⟨i + 1, ri - 1, [p], oo3, oc3, by omega, by omega, by rw [show ((ri - 1 : Nat) : Int) = (ri : Int) - 1 by omega], rfl, by go_num, hB3, by simp; omega, by simpa using hown3, HX2⟩
                case measure => simp [intOf]; omega
              · have hXp : 0 < X.length := List.length_pos_iff.2 hXe
                obtain ⟨N1, hN1⟩ : ∃ N1, X.length = N1 + 1 := ⟨X.length - 1, by omega⟩
                obtain ⟨bo, fo, rfl, hbo, hco⟩ := HPr.at (holds_of hO) hXp
                obtain ⟨q, hq⟩ : ∃ q, X[N1] = q := ⟨_, rfl⟩
                obtain ⟨o0, o1⟩ := hco N1 (by omega)
                rw [hq] at o0 o1
                have hlast : X.getLast? = some q := by rw [List.getLast?_eq_getElem?, hN1, Nat.add_sub_cancel, List.getElem?_eq_getElem (by omega), hq]
                have HXQ : Hid (X ++ (if ab p q then p :: pick (ri - 1) (some p) (l.drop (i + 1)) (R.drop (i + 1)) else pick ri X.getLast? (l.drop (i + 1)) (R.drop (i + 1))) = L) := (by
                  show _ = _
                  rw [← HXP.out]
                  congr 1
                  by_cases hpq : ab p q
                  · rw [if_pos hpq, if_pos ⟨rfl, fun q' h => by rw [hlast] at h; cases h; exact hpq⟩]
                  · rw [if_neg hpq, if_neg (fun h => hpq (h.2 q hlast))])
                have HN1 : Hid (X.length = N1 + 1) := hN1
                rw [hN1] at hO hXl ⊢
                have hcs : ∀ u : World, Low wr u → u.cell? ⟨b, off + i * 2, none⟩ = some (.int .i64 p.X) ∧ u.cell? ⟨b, off + i * 2 + 1, none⟩ = some (.int .i64 p.Y) ∧ u.cell? ⟨bo, fo + N1 * 2, none⟩ = some (.int .i64 q.X) ∧ u.cell? ⟨bo, fo + N1 * 2 + 1, none⟩ = some (.int .i64 q.Y) ∧ u.cell? ⟨w.heap.size, i, none⟩ = some (.int .i64 ri) := fun u hu => ⟨cell_keep hu hbl c0, cell_keep hu hbl c1, cell_keep hu hbo o0, cell_keep hu hbo o1, cell_keep hu (by obtain ⟨_, cur, hcur⟩ := own_at (hS.keep hLow).own; exact (Array.getElem?_eq_some_iff.1 hcur).1) y0⟩
                have n1 : 0 ≤ (N1 : Int) := by omega
                have n2 : (N1 : Int) < (N1 : Int) + 1 := by omega
                have n3 : ((N1 : Int) + 1 == 0) = false := by simp; omega
                have n4 : IntKind.i64.wrap ((N1 : Int) + 1 - 1) = (N1 : Int) := by rw [IntKind.wrap_i64]; omega
                have n5 : IntKind.i64.wrap (N1 : Int) = (N1 : Int) := by rw [IntKind.wrap_i64]; omega
                have n6 : (N1 : Int) + 1 - 1 = (N1 : Int) := by omega
                have n7 : (N1 : Int) < ((N1 + 1 : Nat) : Int) := by omega
                have hLw : Low wr wr := Below.refl _ _
                clear HXP hXe hXp hN1 hco hq hlast
                by_cases hab : ab p q
                · have HAB : Hid (decide (ab p q) = true) := decide_eq_true hab
                  have HX2 : Hid ((X ++ [p]) ++ pick (ri - 1) (some p) (l.drop (i + 1)) (R.drop (i + 1)) = L) := (by
                    show _ = _
                    rw [← HXQ.out, if_pos hab]
                    simp)
                  have hXl2 : N1 + 1 + 1 ≤ L.length := by rw [← HX2.out, ← HN1.out]; simp
                  clear HXQ hab
                  go_wp2_with fail
                  go_region_held3 (fun w' => w'.cell? ⟨b, off + i * 2, none⟩ = some (.int .i64 p.X) ∧ w'.cell? ⟨b, off + i * 2 + 1, none⟩ = some (.int .i64 p.Y) ∧ w'.cell? ⟨bo, fo + N1 * 2, none⟩ = some (.int .i64 q.X) ∧ w'.cell? ⟨bo, fo + N1 * 2 + 1, none⟩ = some (.int .i64 q.Y) ∧ w'.cell? ⟨w.heap.size, i, none⟩ = some (.int .i64 ri) ∧ Low wr w') (go_keep)
                    (first | (go_at_call 49; refine (rises_low q p true wr _ HAB (by first | assumption | (simp [*]; done))).mono ?_; rintro e wd ⟨rfl, hlow⟩; obtain ⟨g0, g1, g2, g3, g4⟩ := hcs wd hlow))
                  have hOd : wd.ownsRow W1.heap.size 43 2 (.slice (some ⟨bo, fo, none⟩) (N1 + 1) oc) (N1 + 1) (prcells X) := owns_keep hO hlow
                  have hLd : Low W1 wd := Below.trans hLow (Below.mono hlow (Below.size hLow))
                  have hsd := Below.size hLd
                  clear c0 c1 o0 o1 y0 hcs g2 g3 g4 n1 n2 n3 n4 n5 n6 n7
                  go_wp2_with (at_builtin; refine wpList_append_h _ (by kernel_rfl) (.tmp 92) (.tmp 97) 40 43 (.agg #[.int .i64 0, .int .i64 0]) 2 16 rfl Try.underlying40 infoQr rfl (by decide) (by decide) W1.heap.size (.slice (some ⟨bo, fo, none⟩) (N1 + 1) oc) (N1 + 1) (prcells X) (by kernel_rfl) (hOd.alloc _) (.slice (some ⟨wd.heap.size, 0, none⟩) 1 1) 1 (prcells [p]) (by kernel_rfl) (new_holds wd _ _ 1 1 (by decide)) rfl (prcells_one _) (by omega) (by simp; omega) ?_)
                  intro v3 w3 hown3 hgrow3
                  have hB3 : Low W1 w3 := (Below.alloc hLd (Below.size hLd) _).grown hgrow3 (by simp; omega) (fun _ hj => owns_ge hOd hj)
                  rw [← prcells_append] at hown3
                  obtain ⟨oo3, oc3, rfl⟩ := (holds_of hown3).form
                  clear hgrow3
                  go_wp2
                  go_roundw
                  case rel => exact ⟨i + 1, ri - 1, X ++ [p], oo3, oc3, by omega, by omega, by rw [show ((ri - 1 : Nat) : Int) = (ri : Int) - 1 by omega], by rw [List.length_append, HN1.out]; rfl, by go_num, hB3, by rw [List.length_append, HN1.out]; simp; omega, by rw [List.length_append, HN1.out]; exact hown3, by rw [List.getLast?_concat]; exact HX2⟩
                  case measure => simp [intOf]; omega
                · have HAB : Hid (decide (ab p q) = false) := decide_eq_false hab
                  have HX2 : Hid (X ++ pick ri X.getLast? (l.drop (i + 1)) (R.drop (i + 1)) = L) := (by
                    show _ = _
                    rw [← HXQ.out, if_neg hab])
                  clear HXQ hab
                  go_wp2_with fail
                  go_region_held3 (fun w' => w'.cell? ⟨b, off + i * 2, none⟩ = some (.int .i64 p.X) ∧ w'.cell? ⟨b, off + i * 2 + 1, none⟩ = some (.int .i64 p.Y) ∧ w'.cell? ⟨bo, fo + N1 * 2, none⟩ = some (.int .i64 q.X) ∧ w'.cell? ⟨bo, fo + N1 * 2 + 1, none⟩ = some (.int .i64 q.Y) ∧ w'.cell? ⟨w.heap.size, i, none⟩ = some (.int .i64 ri) ∧ Low wr w') (go_keep)
                    (first | (go_at_call 49; refine (rises_low q p false wr _ HAB (by first | assumption | (simp [*]; done))).mono ?_; rintro e wd ⟨rfl, hlow⟩; obtain ⟨g0, g1, g2, g3, g4⟩ := hcs wd hlow))
                  have hOd : wd.ownsRow W1.heap.size 43 2 (.slice (some ⟨bo, fo, none⟩) (N1 + 1) oc) (N1 + 1) (prcells X) := owns_keep hO hlow
                  have hLd : Low W1 wd := Below.trans hLow (Below.mono hlow (Below.size hLow))
                  clear c0 c1 o0 o1 y0 hcs g0 g1 g2 g3 g4
                  go_wp2
                  go_roundw
                  case rel => exact ⟨i + 1, ri, X, _, _, by omega, hm, rfl, by rw [HN1.out], by go_num, hLd, by rw [HN1.out]; exact hXl, by rw [HN1.out]; exact hOd, HX2⟩
                  case measure => simp [intOf]; omega
            · have e1 : ((ri : Int) == (m : Int)) = false := by simp; omega
              have HX2 : Hid (X ++ pick m X.getLast? (l.drop (i + 1)) (R.drop (i + 1)) = L) := (by
                show _ = _
                rw [← HXP.out, if_neg (fun h => hrm h.1)])
              clear HXP
              go_wp2_with fail
              go_big_quiet (fail)
              go_wp2
              go_roundw
              case rel => exact ⟨i + 1, m, X, oo, oc, by omega, hm, rfl, rfl, by go_num, Below.dN hLow _, hXl, hO, HX2⟩
              case measure => simp [intOf]; omega
        · have e := hfin (.inl (by omega))
          subst e
          clear hfin
          go_wp2
          go_ret
          exact ⟨_, rfl, holds_of hO, hS.low.trans (Below.mono hLow hS.low.size)⟩
    | succ i =>
      obtain rfl : z = (i : Int) := by omega
      clear hz
      have i1 : 0 ≤ (i : Int) := by omega
      have i2 : (i : Int) < (l.length : Int) := by omega
      have f0 := hS.own.frozenAt i
      have y0 := hS.own.cellAt i (by omega)
      rw [List.getElem?_eq_getElem (by rw [icells_length, hS.len]; omega)] at y0
      obtain ⟨z0, hz0⟩ : ∃ z, (icells Z)[i]'(by rw [icells_length, hS.len]; omega) = z := ⟨_, rfl⟩
      rw [hz0] at y0
      clear hz0
      obtain ⟨p, hp⟩ : ∃ p, l[i]'(by omega) = p := ⟨_, rfl⟩
      obtain ⟨ri, hri⟩ : ∃ r, R[i]'(by have := HR.out.1; omega) = r := ⟨_, rfl⟩
      have HRI : Hid (ri = mxl p (l.drop (i + 1)) (R.drop (i + 1)) + 1 ∧ ri ≤ l.length ∧ mxn (R.drop i) = max ri m) := (by
        have h1 := HR.out.2.2 i (by omega) (by have := HR.out.1; omega)
        rw [hri, hp] at h1
        refine ⟨h1, ?_, ?_⟩
        · rw [← hri]; exact (HR.out.2.1 _ (List.getElem_mem _)).2
        · rw [List.drop_eq_getElem_cons (show i < R.length by have := HR.out.1; omega), mxn, hri, HD.out.2])
      have HDI : Hid (∀ Z' : List Int, Dn R (i + 1) Z' → Dn R i (Z'.set i (ri : Int))) := (fun Z' h => h.set (by have := HR.out.1; omega) (by rw [hri]))
      have hpx : ∀ u : World, Below w.heap.size w u → ∃ b off, lo = some ⟨b, off, none⟩ ∧ b < u.heap.size ∧ u.cell? ⟨b, off + i * 2, none⟩ = some (.int .i64 p.X) ∧ u.cell? ⟨b, off + i * 2 + 1, none⟩ = some (.int .i64 p.Y) := fun u hu => by
        obtain ⟨b, off, e, hlt, hc⟩ := HPr.at (HPr.keep hl hu (Nat.le_refl _)) (by omega)
        have := hc i (by omega)
        rw [hp] at this
        exact ⟨b, off, e, hlt, this⟩
      clear hp hri
      have hS1 := hS.set i 1
      have hDs : Hid (Dn R (i + 1) (Z.set i 1)) := ⟨by rw [List.length_set]; exact HD.out.1.1, fun j hj hji => by rw [List.getElem?_set_ne (by omega)]; exact HD.out.1.2 j hj hji⟩
      go_wp2
      go_loopw [6] (fun kv wi => ∃ (k m' : Nat) (Z' : List Int), i < k ∧ k ≤ l.length ∧ 1 ≤ m' ∧ m' ≤ l.length + 1 ∧ kv = .int .i64 k ∧ Ls w w.heap.size l.length Z' wi ∧ Z'[i]? = some (m' : Int) ∧ Hid (Dn R (i + 1) Z' ∧ max m' (mxl p (l.drop k) (R.drop k) + 1) = ri)) (fun kv _ => l.length - (intOf kv).toNat)
      case atStart => exact ⟨i + 1, 1, Z.set i 1, by omega, by omega, Nat.le_refl _, by omega, by go_num, hS1, by rw [List.getElem?_set_self (by rw [hS.len]; omega)]; rfl, hDs.out, by rw [HRI.out.1]; omega⟩
      case round =>
        clear hS hS1 hDs f0 y0
        obtain ⟨k, m', Z', hik, hkl, hm1, hm2, rfl, hS, hZi, HM⟩ := hrel
        by_cases hkk : k < l.length
        · obtain ⟨q, hq⟩ : ∃ q, l[k] = q := ⟨_, rfl⟩
          obtain ⟨rk, hrk⟩ : ∃ r, R[k]'(by have := HR.out.1; omega) = r := ⟨_, rfl⟩
          have hrkb := (HR.out.2.1 _ (List.getElem_mem (l := R) (n := k) (by have := HR.out.1; omega))).2
          rw [hrk] at hrkb
          have hZk : Z'[k]? = some (rk : Int) := by
            rw [HM.out.1.2 k (by have := HR.out.1; omega) (by omega), hrk]
          have HM2 : Hid (max m' ((if ab q p then max rk (mxl p (l.drop (k + 1)) (R.drop (k + 1))) else mxl p (l.drop (k + 1)) (R.drop (k + 1))) + 1) = ri) := (by
            have := HM.out.2
            rw [mxl_step p l R k hkk (by have := HR.out.1; omega), hq, hrk] at this
            exact this)
          have HD1 : Hid (Dn R (i + 1) Z') := HM.out.1
          obtain ⟨b, off, rfl, hbl, c0, c1⟩ := hpx wr hS.low
          obtain ⟨b', off', e', _, hc⟩ := HPr.at (HPr.keep hl hS.low (Nat.le_refl _)) (by omega)
          cases e'
          obtain ⟨d0, d1⟩ := hc k hkk
          rw [hq] at d0 d1
          clear hc hq hrk HM
          have k1 : 0 ≤ (k : Int) := by omega
          have k2 : (k : Int) < (l.length : Int) := by omega
          have y0 := hS.at hZi
          have y1 := hS.at hZk
          have f0 := hS.own.frozenAt i
          have hLow : Low wr wr := Below.refl _ _
          have hcs : ∀ u : World, Low wr u → u.cell? ⟨b, off + i * 2, none⟩ = some (.int .i64 p.X) ∧ u.cell? ⟨b, off + i * 2 + 1, none⟩ = some (.int .i64 p.Y) ∧ u.cell? ⟨b, off + k * 2, none⟩ = some (.int .i64 q.X) ∧ u.cell? ⟨b, off + k * 2 + 1, none⟩ = some (.int .i64 q.Y) := fun u hu => ⟨cell_keep hu hbl c0, cell_keep hu hbl c1, cell_keep hu hbl d0, cell_keep hu hbl d1⟩
          by_cases hab : ab q p
          · have HAB : Hid (decide (ab q p) = true) := decide_eq_true hab
            have HM3 : Hid (max (max m' (rk + 1)) (mxl p (l.drop (k + 1)) (R.drop (k + 1)) + 1) = ri) := (by
              show _ = _
              have := HM2.out
              rw [if_pos hab] at this
              omega)
            clear HM2 hab
            go_wp2_with fail
            go_region_held3 (fun w' => w'.cell? ⟨b, off + i * 2, none⟩ = some (.int .i64 p.X) ∧ w'.cell? ⟨b, off + i * 2 + 1, none⟩ = some (.int .i64 p.Y) ∧ w'.cell? ⟨b, off + k * 2, none⟩ = some (.int .i64 q.X) ∧ w'.cell? ⟨b, off + k * 2 + 1, none⟩ = some (.int .i64 q.Y) ∧ Low wr w') (go_keep)
              (first | (go_at_call 49; refine (rises_low p q true wr _ HAB (by first | assumption | (simp [*]; done))).mono ?_; rintro e w' ⟨rfl, hlow⟩; obtain ⟨g0, g1, g2, g3⟩ := hcs w' hlow))
            have hS1 := hS.keep hlow
            have y0' := hS1.at hZi
            have y1' := hS1.at hZk
            have f0' := hS1.own.frozenAt i
            clear y0 y1 f0 c0 c1 d0 d1 hcs g0 g1 g2 g3
            go_wp2_with fail
            go_region
            go_wp2
            have hval : (if (m' : Int) < (rk : Int) + 1 then (rk : Int) + 1 else (m' : Int)) = ((max m' (rk + 1) : Nat) : Int) := by split <;> omega
            exact ⟨⟨k + 1, max m' (rk + 1), Z'.set i ((max m' (rk + 1) : Nat) : Int), by omega, by omega, by omega, by omega, by go_num, by rw [hval]; exact (hS1.set i _).drewN 1, by rw [List.getElem?_set_self (by rw [hS.len]; omega)], ⟨by rw [List.length_set]; exact HD1.out.1, fun j hj hji => by rw [List.getElem?_set_ne (by omega)]; exact HD1.out.2 j hj hji⟩, HM3.out⟩, by simp [intOf]; omega⟩
          · have HAB : Hid (decide (ab q p) = false) := decide_eq_false hab
            have HM3 : Hid (max m' (mxl p (l.drop (k + 1)) (R.drop (k + 1)) + 1) = ri) := (by
              show _ = _
              have := HM2.out
              rw [if_neg hab] at this
              exact this)
            clear HM2 hab
            go_wp2_with fail
            go_region_held3 (fun w' => w'.cell? ⟨b, off + i * 2, none⟩ = some (.int .i64 p.X) ∧ w'.cell? ⟨b, off + i * 2 + 1, none⟩ = some (.int .i64 p.Y) ∧ w'.cell? ⟨b, off + k * 2, none⟩ = some (.int .i64 q.X) ∧ w'.cell? ⟨b, off + k * 2 + 1, none⟩ = some (.int .i64 q.Y) ∧ Low wr w') (go_keep)
              (first | (go_at_call 49; refine (rises_low p q false wr _ HAB (by first | assumption | (simp [*]; done))).mono ?_; rintro e w' ⟨rfl, hlow⟩; obtain ⟨g0, g1, g2, g3⟩ := hcs w' hlow))
            have hS1 := hS.keep hlow
            clear y0 y1 f0 c0 c1 d0 d1 hcs g0 g1 g2 g3
            go_wp2
            go_roundw
            case rel => exact ⟨k + 1, m', Z', by omega, by omega, hm1, hm2, by go_num, hS1, hZi, HD1.out, HM3.out⟩
            case measure => simp [intOf]; omega
        · obtain rfl : k = l.length := by omega
          have hmr : m' = ri := by
            have := HM.out.2
            simp [mxl] at this
            omega
          subst hmr
          have hS' : Ls w w.heap.size l.length (Z'.set i (m' : Int)) wr := by
            have e : Z'.set i (m' : Int) = Z' := by
              obtain ⟨h1, h2⟩ := List.getElem?_eq_some_iff.1 hZi
              rw [← h2, List.set_getElem_self]
            rw [e]
            exact hS
          have y0 := hS.at hZi
          have hmb : max m' m ≤ l.length := by have := HRI.out.2.1; omega
          go_wp2
          go_roundw
          case rel => exact ⟨i, max m' m, (i : Int) - 1, _, by omega, hmb, by congr 1; split <;> omega, by go_num, by omega, hS', HDI.out Z' HM.out.1, HRI.out.2.2⟩
          case measure => simp [intOf]
end Go.Proofs.Ytppdcjjkkckokaa
