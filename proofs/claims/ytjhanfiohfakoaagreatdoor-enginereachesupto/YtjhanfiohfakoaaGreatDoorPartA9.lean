/-
  Texts that belong together, joined: PaBk, PaRs, MiWm, EdRMk, MiTb, PaRl, PaRg.
-/
import Derived.Test.YtjhanfiohfakoaaGreatDoorPartA7
import Derived.Test.YtjhanfiohfakoaaGreatDoorPartA5
import Derived.Test.YtjhanfiohfakoaaGreatDoorPartA8
import Derived.Test.YtjhanfiohfakoaaGreatDoorPartA6

/- The iterator slices.Backward over a row of pairs: its contract for every loop body that keeps what it reads. -/
set_option maxRecDepth 20000
namespace Go.Proofs.YtjhanfiohfakoaaGreatDoor
open Go.RowKit Go.Shelf
attribute [local go_sem] Oper.semAt_some

/-- what a round keeps: all below n₀, and the iterator's box -/
structure Kq (n₀ lo : Nat) (W W' : World) : Prop where
  low : Below n₀ W W'
  box : W'.heap[lo]? = W.heap[lo]?
section
variable {n₀ lo : Nat} {A B C : World}
theorem Kq.refl (W : World) : Kq n₀ lo W W := ⟨Below.refl _ _, rfl⟩
theorem Kq.trans (h : Kq n₀ lo A B) (k : Kq n₀ lo B C) : Kq n₀ lo A C := ⟨h.low.trans k.low, k.box.trans h.box⟩
theorem Kq.alloc {W : World} (hn : n₀ ≤ W.heap.size) (hl : lo < W.heap.size) (o : Obj) : Kq n₀ lo W (W.alloc o) := ⟨(Below.refl _ W).alloc hn o, Below.heap_alloc W o lo hl⟩
theorem Kq.putObj {w : World} (hn : n₀ ≤ w.heap.size) (hl : lo < w.heap.size) (W : World) (l : Nat) (o o' : Obj) (hlw : w.heap.size ≤ l) (h : W.heap[l]? = some o) (hc : o.isCells = false) (hw : o.isWalk = false) : Kq n₀ lo W (W.putObj l o') :=
  ⟨belowK_b hn W l o o' hlw h hc hw, by have hne : l ≠ lo := (by omega); simp [World.putObj, hne]⟩
theorem Kq.drewN (W : World) (k : Nat) : Kq n₀ lo W (W.drewN k) := ⟨Below.dN (Below.refl _ W) k, rfl⟩
end
/-- the members with their places -/
def en (k : Nat) : List Pr → List (Nat × Pr)
  | [] => []
  | p :: t => (k, p) :: en (k + 1) t
theorem en_append (k : Nat) (a b : List Pr) : en k (a ++ b) = en k a ++ en (k + a.length) b := by
  induction a generalizing k with
  | nil => rfl
  | cons p t ih => simp [en, ih]; congr 1; omega
theorem en_take (l : List Pr) (i : Nat) (hi : i < l.length) : (en 0 (l.take (i + 1))).reverse = (i, l[i]) :: (en 0 (l.take i)).reverse := by
  rw [List.take_succ_eq_append_getElem hi, en_append, List.reverse_append]
  have : 0 + (l.take i).length = i := by rw [List.length_take]; omega
  rw [this]
  rfl
theorem en_snd (k : Nat) (l : List Pr) : (en k l).map (·.2) = l := by
  induction l generalizing k with
  | nil => rfl
  | cons p t ih => simp [en, ih]
/-- a member with its place, which is below n -/
abbrev Mp (n : Nat) := { x : Nat × Pr // x.1 < n }

theorem Backward_any (ao : Option Addr) (len c : Nat) (w : World) :
    Calls Tryz.prog 114 #[.slice ao len c] w fun e w' =>
      e = .returned (.func (.func 136) #[] #[.pointer (some ⟨w.heap.size, 0, none⟩)]) ∧ w' = w.alloc (.cells #[.slice ao len c] 112) := by
  go_enter Tryz.func114, Tryz.ntmps114
  go_wp2
  go_ret
  exact ⟨rfl, rfl⟩

set_option maxRecDepth 100000 in
set_option maxHeartbeats 2000000 in
theorem back1_in (N : Nat) (hN : 1 ≤ N) (lp lo n₀ : Nat) (ao : Option Addr) (ca : Nat) (l : List Pr) (hlen : l.length ≤ 1048576)
    (J Jx : List (Mp l.length) → World → Prop) (W : World) (_hJ : AbidesFrom W.heap.size J)
    (hY : ∀ pre (x : Mp l.length) W1, J pre W1 → pre.length < l.length → YieldAt Fence.wide (N - 1) Tryz.prog lp #[.int .i64 (x.1.1 : Int), prV x.1.2] W1 fun e W' =>
      (e = .returned (.bool true) ∧ J (pre ++ [x]) W' ∧ Kq n₀ lo W1 W') ∨ (e = .returned (.bool false) ∧ Jx (pre ++ [x]) W'))
    (_hlo : n₀ ≤ lo) (_hsz : lo < W.heap.size) (hb0 : W.heap[lo]? = some (.cells #[.slice ao l.length ca] 112 (0, 0)))
    (hl : HPr W (.slice ao l.length ca) l) (hb : ∀ a, ao = some a → 0 < l.length → a.block < n₀) (h0 : J [] W) :
    CallsIn Fence.wide N Tryz.prog 136 #[.func (.yield lp) #[] #[], .pointer (some ⟨lo, 0, none⟩)] W fun e W' => (∃ v, e = .returned v) ∧
      ((∃ ys : List (Mp l.length), ys.map (·.1) = (en 0 l).reverse ∧ J ys W') ∨ (∃ pre, True ∧ Jx pre W')) := by
  have d0 : W.cell? ⟨lo, 0, none⟩ = some (.slice ao l.length ca) := by rw [Lib.cell_of_heap hb0]; rfl
  refine callsIn_of_wp Tryz.func136 rfl trivial ?_ rfl
  simp only [Tryz.ntmps136, List.size_toArray, List.length_cons, List.length_nil, Nat.reduceAdd, Nat.reduceSub, Array.replicate_succ, Array.replicate_zero, List.push_toArray, List.append_toArray, List.nil_append, List.cons_append]
  gi_wp2
  gi_loopw [3] (fun iv wr => ∃ (k : Nat) (z : Int) (pre : List (Mp l.length)), k ≤ l.length ∧ pre.length + k = l.length ∧ iv = .int .i64 z ∧ z + 1 = k ∧ Kq n₀ lo W wr ∧ J pre wr ∧ Hid (pre.map (·.1) ++ (en 0 (l.take k)).reverse = (en 0 l).reverse)) (fun iv _ => (intOf iv + 1).toNat)
  case atStart => exact ⟨l.length, (l.length : Int) - 1, [], Nat.le_refl _, by simp, by go_num, by omega, Kq.refl W, h0, (by show _ = _; simp)⟩
  case round =>
    obtain ⟨k, z, pre, hk, hpl, rfl, hz, hK, hJr, hR⟩ := hrel
    have hszr := hK.low.size
    have hbx := hK.box.trans hb0
    have d1 : wr.cell? ⟨lo, 0, none⟩ = some (.slice ao l.length ca) := by rw [Lib.cell_of_heap hbx]; rfl
    cases k with
    | zero =>
      obtain rfl : z = -1 := by omega
      gi_wp2
      go_end0
      exact ⟨⟨_, rfl⟩, .inl ⟨pre, by have h := hR.out; rw [← h]; simp [en], hJr⟩⟩
    | succ i =>
      obtain rfl : z = (i : Int) := by omega
      have hlt : i < l.length := by omega
      obtain ⟨bk, off, rfl, hbk, hc⟩ := HPr.at hl (by omega)
      have hbn := hb _ rfl (by omega)
      have hcell : ∀ o v, W.cell? ⟨bk, o, none⟩ = some v → wr.cell? ⟨bk, o, none⟩ = some v := fun o v h => by
        rw [← h]
        unfold World.cell?
        rw [hK.low.block bk hbn]
      obtain ⟨c0', c1'⟩ := hc i hlt
      have c0 := hcell _ _ c0'
      have c1 := hcell _ _ c1'
      have HR : Hid (pre.map (·.1) ++ (i, l[i]) :: (en 0 (l.take i)).reverse = (en 0 l).reverse) := (by
        show _ = _
        rw [← en_take l i hlt]
        exact hR.out)
      obtain ⟨p, hp⟩ : ∃ p, l[i] = p := ⟨_, rfl⟩
      rw [hp] at c0 c1 HR
      clear hc c0' c1' hcell hR hp
      have i1 : 0 ≤ (i : Int) := by omega
      have i2 : (i : Int) < (l.length : Int) := by omega
      obtain ⟨X, Y⟩ := p
      dsimp only at c0 c1
      obtain ⟨fn, tmps, assign, body, hy, hRd⟩ := hY pre ⟨(i, ⟨X, Y⟩), hlt⟩ wr hJr (by omega)
      simp only [prV] at hy
      gi_wp2
      refine hRd.mono ?_
      rintro e W3 (⟨rfl, hJ3, hk3⟩ | ⟨rfl, hJx3⟩)
      · gi_wp2
        go_roundw
        case rel => exact ⟨i, (i : Int) - 1, pre ++ [⟨(i, ⟨X, Y⟩), hlt⟩], by omega, by simp; omega, by go_num, by omega, hK.trans hk3, hJ3, (by show _ = _; rw [← HR.out]; simp)⟩
        case measure => simp [intOf]
      · gi_wp2
        refine bodyPost_ret (results_none rfl _ _ _) rfl ?_
        exact ⟨⟨_, rfl⟩, .inr ⟨_, trivial, hJx3⟩⟩

theorem HPr.lt {w : World} {ao : Option Addr} {n c : Nat} {l : List Pr} (h : HPr w (.slice ao n c) l) (a : Addr) (ha : ao = some a) (h0 : 0 < l.length) : a.block < w.heap.size := by
  obtain ⟨b, off, hb, hlt, _⟩ := HPr.at h h0
  rw [ha] at hb
  cases hb
  exact hlt
/-- the iterator over a row of pairs from its end -/
theorem back_stops (N : Nat) (hN : 1 ≤ N) (lo n₀ : Nat) (ao : Option Addr) (ca : Nat) (l : List Pr) (hlen : l.length ≤ 1048576) (w : World)
    (hlo : n₀ ≤ lo) (hsz : lo < w.heap.size) (hb0 : w.heap[lo]? = some (.cells #[.slice ao l.length ca] 112 (0, 0))) (hl : HPr w (.slice ao l.length ca) l) (hb : ∀ a, ao = some a → 0 < l.length → a.block < n₀) :
    SeqStopsK Fence.wide N Tryz.prog 136 #[.pointer (some ⟨lo, 0, none⟩)] (fun x : Mp l.length => #[.int .i64 (x.1.1 : Int), prV x.1.2]) (Kq n₀ lo) (fun ys => ys.map (·.1) = (en 0 l).reverse) (fun _ => True) l.length w := fun lp J Jx W hW hJ _ hY h0 =>
  back1_in N hN lp lo n₀ ao ca l hlen J Jx W hJ hY hlo (Nat.lt_of_lt_of_le hsz hW.size) ((hW.block _ hsz).trans hb0) (HPr.keep hl hW (Nat.le_refl _)) hb h0
end Go.Proofs.YtjhanfiohfakoaaGreatDoor

/- The heads of all lengths in memory; the closure that looks whether one of them may stand behind a pair, walked. -/
set_option maxRecDepth 20000
namespace Go.Proofs.YtjhanfiohfakoaaGreatDoor
open Go.RowKit
attribute [local simp] low_drew low_alloc

theorem owns_cells {w : World} {base n : Nat} {e : TypeId} {s : Nat} {v : Value} {xs : List Value} (ho : w.ownsRow base e s v n xs) {g : Nat} (hg : v.ownBlock = some g) : ∃ cur, w.heap[g]? = some (.cells cur e (0, 0)) ∧ base ≤ g := by
  rcases ho.2 with ⟨h1, _⟩ | ⟨g', cap, cur, q1, q2, q3, _⟩
  · rw [h1] at hg; cases hg
  · rw [q1] at hg; cases hg; exact ⟨cur, q3, q2⟩
theorem owns_differ {w : World} {base base' n n' : Nat} {e e' : TypeId} {s s' : Nat} {v v' : Value} {xs xs' : List Value} (ho : w.ownsRow base e s v n xs) (ho' : w.ownsRow base' e' s' v' n' xs') (hne : e ≠ e') : v.ownBlock = none ∨ v.ownBlock ≠ v'.ownBlock := by
  cases h : v.ownBlock with
  | none => exact .inl rfl
  | some g =>
    right
    intro e2
    obtain ⟨cur, h1, _⟩ := owns_cells ho h
    obtain ⟨cur', h2, _⟩ := owns_cells ho' e2.symm
    rw [h1] at h2
    cases h2
    exact hne rfl
/-- the heads of all lengths: a row of rows, each with its own block -/
structure Al (W : World) (base : Nat) (va : Value) (vals : List Value) (H : List (List Pr)) : Prop where
  row : W.ownsRow base 173 1 va vals.length vals
  len : vals.length = H.length
  own : ∀ (n : Nat) (v : Value) (h : List Pr), vals[n]? = some v → H[n]? = some h → W.ownsRow base 115 2 v h.length (prcells h)
  apart : ∀ (i j : Nat) (v v' : Value) (g : Nat), i ≠ j → vals[i]? = some v → vals[j]? = some v' → v.ownBlock = some g → v'.ownBlock ≠ some g
theorem Al.keep {W u : World} {base : Nat} {va : Value} {vals : List Value} {H : List (List Pr)} (h : Al W base va vals H) (hb : Low W u) : Al u base va vals H :=
  ⟨owns_keep h.row hb, h.len, fun n v k h1 h2 => owns_keep (h.own n v k h1 h2) hb, h.apart⟩
theorem Al.at {W : World} {base : Nat} {va : Value} {vals : List Value} {H : List (List Pr)} (h : Al W base va vals H) {n : Nat} (hn : n < H.length) : ∃ v, vals[n]? = some v ∧ HPr W v H[n] := by
  have hl := h.len
  exact ⟨vals[n], List.getElem?_eq_getElem (by omega), holds_of (h.own n _ _ (List.getElem?_eq_getElem (by omega)) (List.getElem?_eq_getElem hn))⟩
theorem Al.cell {W : World} {base : Nat} {ao : Option Addr} {k c : Nat} {vals : List Value} {H : List (List Pr)} (h : Al W base (.slice ao k c) vals H) {n : Nat} {v : Value} (hv : vals[n]? = some v) : ∃ g, ao = some ⟨g, 0, none⟩ ∧ g < W.heap.size ∧ W.cell? ⟨g, n, none⟩ = some v ∧ W.frozen? ⟨g, n, none⟩ = false := by
  have hn := (List.getElem?_eq_some_iff.1 hv).1
  rcases h.row.2 with ⟨h1, h2⟩ | ⟨g, cap, cur, q1, q2, q3, q4⟩
  · omega
  · cases q1
    refine ⟨g, rfl, (Array.getElem?_eq_some_iff.1 q3).1, ?_, h.row.frozenAt n⟩
    rw [h.row.cellAt n (by omega), hv]
/-- one list of heads has grown -/
theorem Al.set {W u : World} {base : Nat} {g k c : Nat} {vals : List Value} {H : List (List Pr)} (h : Al W base (.slice (some ⟨g, 0, none⟩) k c) vals H) {n : Nat} {v v' : Value} {h' : List Pr} (hv : vals[n]? = some v) (hG : Grows base W v v' h' u) : Al (u.setCell ⟨g, n, none⟩ v') base (.slice (some ⟨g, 0, none⟩) k c) (vals.set n v') (H.set n h') := by
  have hn := (List.getElem?_eq_some_iff.1 hv).1
  have hl := h.len
  obtain ⟨g1, g2, g3⟩ := hG
  have hnH : n < H.length := by omega
  have hOn := h.own n v H[n] hv (List.getElem?_eq_getElem hnH)
  have hrow : u.ownsRow base 173 1 (.slice (some ⟨g, 0, none⟩) k c) vals.length vals := h.row.kept g2 (owns_differ h.row hOn (by decide))
  have hkk : k = vals.length := by
    rcases h.row.2 with ⟨h1, h2⟩ | ⟨g', cap, cur, q1, _⟩
    · cases h1
    · cases q1; rfl
  subst hkk
  obtain ⟨p1, gs⟩ := hrow.stored n v'
  refine ⟨by rw [List.length_set]; exact p1, by simp [hl], fun m x y hx hy => ?_, fun i j x y b hij hx hy hb => ?_⟩
  · by_cases e : m = n
    · subst e
      rw [List.getElem?_set_self hn] at hx
      rw [List.getElem?_set_self hnH] at hy
      cases hx
      cases hy
      exact g1.kept gs (by simpa [Value.ownBlock] using owns_differ g1 hrow (by decide))
    · rw [List.getElem?_set_ne (fun q => e q.symm)] at hx hy
      have hOm := h.own m x y hx hy
      have hOu : u.ownsRow base 115 2 x y.length (prcells y) := hOm.kept g2 (by
        cases hb : x.ownBlock with
        | none => exact .inl rfl
        | some b => exact .inr (fun q => h.apart m n x v b e hx hv hb q.symm))
      exact hOu.kept gs (by simpa [Value.ownBlock] using owns_differ hOu hrow (by decide))
  · have key : ∀ m y, m ≠ n → vals[m]? = some y → ∀ b, y.ownBlock = some b → v'.ownBlock ≠ some b := fun m y hmn hy b hb q => by
      rcases g3 with g3 | ⟨g', g3, g4⟩
      · exact h.apart m n y v b hmn hy hv hb (g3 ▸ q)
      · rw [g3] at q
        cases q
        have hm := (List.getElem?_eq_some_iff.1 hy).1
        have := owns_lt2 (h.own m y H[m] hy (List.getElem?_eq_getElem (by omega))) hb
        omega
    by_cases ei : i = n
    · subst ei
      rw [List.getElem?_set_self hn] at hx
      cases hx
      rw [List.getElem?_set_ne hij] at hy
      exact fun q => key j y (fun q' => hij q'.symm) hy b q hb
    · rw [List.getElem?_set_ne (fun q => ei q.symm)] at hx
      by_cases ej : j = n
      · subst ej
        rw [List.getElem?_set_self hn] at hy
        cases hy
        exact key i x ei hx b hb
      · rw [List.getElem?_set_ne (fun q => ej q.symm)] at hy
        exact h.apart i j x y b hij hx hy hb
/-- one more, still empty -/
theorem Al.more {W w1 : World} {base : Nat} {va va' : Value} {vals : List Value} {H : List (List Pr)} (h : Al W base va vals H) (hO : w1.ownsRow base 173 1 va' (vals.length + 1) (vals ++ [.slice none 0 0])) (hg : W.grownBy w1 va.ownBlock) : Al w1 base va' (vals ++ [.slice none 0 0]) (H ++ [[]]) := by
  have hl := h.len
  refine ⟨by rw [List.length_append]; exact hO, by simp [hl], fun n v k hv hk => ?_, fun i j x y b hij hx hy hb => ?_⟩
  · by_cases e : n < vals.length
    · rw [List.getElem?_append_left e] at hv
      rw [List.getElem?_append_left (by omega)] at hk
      have := h.own n v k hv hk
      exact this.kept hg (owns_differ this h.row (by decide))
    · have hn : n = vals.length := by
        have := (List.getElem?_eq_some_iff.1 hv).1
        simp at this
        omega
      subst hn
      rw [List.getElem?_append_right (Nat.le_refl _)] at hv
      rw [hl, List.getElem?_append_right (Nat.le_refl _)] at hk
      simp at hv hk
      subst hv hk
      exact World.ownsRow_nil _ _ _ _
  · have key : ∀ (m : Nat) (y : Value), (vals ++ [.slice none 0 0])[m]? = some y → y.ownBlock ≠ none → vals[m]? = some y := fun m y hy hn => by
      by_cases e : m < vals.length
      · rwa [List.getElem?_append_left e] at hy
      · rw [List.getElem?_append_right (by omega)] at hy
        have := (List.getElem?_eq_some_iff.1 hy).1
        simp at this
        have e2 : m - vals.length = 0 := by omega
        rw [e2] at hy
        simp at hy
        subst hy
        exact absurd rfl hn
    intro q
    exact h.apart i j x y b hij (key i x hx (by rw [hb]; simp)) (key j y hy (by rw [q]; simp)) hb q

theorem behind_low (h : List Pr) (p : Pr) (v : Value) (W u : World) (hh : HPr W v h) (hl : h.length ≤ 1048576) (hs : Hid (Stair h)) (r : Bool) (hr : Hid (r = true ↔ ∃ a ∈ h, ab a p)) (hL : Low W u) :
    Calls Tryz.prog 117 #[v, prV p] u fun e w' => e = .returned (.bool r) ∧ Low W w' := by
  refine (behind_f h p v u (HPr.keep hh hL (Nat.le_refl _)) hl hs r hr).mono ?_
  rintro e w' ⟨rfl, h2⟩
  exact ⟨rfl, Below.trans hL (h2.mono (Below.size hL))⟩

set_option maxHeartbeats 1000000 in
theorem rf1_f (H : List (List Pr)) (p : Pr) (i B4 Bp base : Nat) (va : Value) (vals : List Value) (W u : World) (hL : Low W u) (hA : Al W base va vals H) (c4 : W.cell? ⟨B4, 0, none⟩ = some va) (hb4 : B4 < W.heap.size) (cX : W.cell? ⟨Bp, 0, none⟩ = some (.int .i64 p.X)) (cY : W.cell? ⟨Bp, 1, none⟩ = some (.int .i64 p.Y)) (hbp : Bp < W.heap.size) (hi : i < H.length) (hst : Hid (∀ h ∈ H, Stair h ∧ h.length ≤ 1048576)) (_hHl : H.length ≤ 1048576) (r : Bool) (hr : Hid (r = true ↔ ∃ a ∈ H[i], ab a p)) :
    Calls Tryz.prog 116 #[.int .i64 (i : Int), .pointer (some ⟨B4, 0, none⟩), .pointer (some ⟨Bp, 0, none⟩)] u fun e u' => e = .returned (.bool !r) ∧ Low W u' := by
  obtain ⟨ao, c, rfl⟩ := (holds_of hA.row).form
  obtain ⟨v, hv, hh⟩ := hA.at hi
  obtain ⟨g, rfl, hgl, cv, _⟩ := hA.cell hv
  have hs := hst.out _ (List.getElem_mem hi)
  obtain ⟨vo, vc, rfl⟩ := Holds.form hh
  have hlen := hA.len
  obtain ⟨X, Y⟩ := p
  dsimp only at cX cY
  have hcs : ∀ z : World, Low W z → z.cell? ⟨B4, 0, none⟩ = some (.slice (some ⟨g, 0, none⟩) vals.length c) ∧ z.cell? ⟨g, i, none⟩ = some (.slice vo H[i].length vc) ∧ z.cell? ⟨Bp, 0, none⟩ = some (.int .i64 X) ∧ z.cell? ⟨Bp, 1, none⟩ = some (.int .i64 Y) := fun z hz => ⟨cell_stay hz hb4 c4, cell_stay hz hgl cv, cell_stay hz hbp cX, cell_stay hz hbp cY⟩
  obtain ⟨d1, d2, d3, d4⟩ := hcs u hL
  obtain ⟨h, hh'⟩ : ∃ h, H[i] = h := ⟨_, rfl⟩
  rw [hh'] at hh hs d2 hcs hr
  have HS : Hid (Stair h) := hs.1
  have hhl := hs.2
  clear hh' c4 cX cY cv hs
  have i1 : 0 ≤ (i : Int) := by omega
  have i2 : (i : Int) < (vals.length : Int) := by omega
  go_enter Tryz.func116, Tryz.ntmps116
  go_wp2_with fail
  go_region_held3 (fun w' => w'.cell? ⟨B4, 0, none⟩ = some (.slice (some ⟨g, 0, none⟩) vals.length c) ∧ w'.cell? ⟨g, i, none⟩ = some (.slice vo h.length vc) ∧ w'.cell? ⟨Bp, 0, none⟩ = some (.int .i64 X) ∧ w'.cell? ⟨Bp, 1, none⟩ = some (.int .i64 Y) ∧ Low W w') (go_keep)
    (first | (go_at_call 117; refine (behind_low h ⟨X, Y⟩ _ W _ hh hhl HS r hr (by first | assumption | (simp [*]; done))).mono ?_; rintro e w' ⟨rfl, hlow⟩; obtain ⟨g0, g1, g2, g3⟩ := hcs w' hlow))
  go_wp2
  go_ret
  exact ⟨rfl, hlow⟩
end Go.Proofs.YtjhanfiohfakoaaGreatDoor

/- Which rows are the same, told by the script; SameInts of any two rows, walked. -/
set_option maxRecDepth 20000
namespace Go.Proofs.YtjhanfiohfakoaaGreatDoor
open Go.RowKit

theorem kp_self (b : Int) (x : List Int) : kp b x x = (List.range x.length).map fun (j : Nat) => b + (j : Int) := by
  induction x generalizing b with
  | nil => rw [kp_nil]; rfl
  | cons a x ih =>
    rw [kp_cons, if_pos rfl, ih, List.length_cons, List.range_succ_eq_map, List.map_cons, List.map_map]
    simp
    intro j _
    omega
theorem mk_nil (x y : List Int) (hx : x.length ≤ 4096) (hy : y.length ≤ 4096) : mkL (kp 0 x y) y.length = [] ↔ x = y := by
  constructor
  · intro h
    have hv : Vk 0 (y.length : Int) (kp 0 x y) := by
      have := kp_vk 0 x y (Int.le_refl _)
      rwa [Int.zero_add] at this
    have hl := kp_length 0 x y
    obtain ⟨⟨_, _, hS⟩, hU⟩ := mk_script hv (by omega) (by omega) (by rw [hl]; omega)
    rw [h] at hS hU
    rw [U_nil] at hU
    have hnm : x.length = y.length := by
      have h1 := hS.2.2
      rw [hl] at h1
      omega
    apply List.ext_getElem hnm
    intro i h1 h2
    have hm : (⟨(i : Int), (i : Int), 1⟩ : Rn) ∈ keptR 0 (kp 0 x y) := by
      rw [← hU, mem_un]
      rw [hl]
      refine ⟨rfl, ?_, ?_, ?_⟩ <;> dsimp only <;> omega
    rw [mem_keptR] at hm
    obtain ⟨_, _, h3, _⟩ := hm
    dsimp only at h3
    rw [show ((i : Int) - 0).toNat = i by omega] at h3
    obtain ⟨_, c, h4, h5⟩ := kp_same 0 x y (Int.le_refl _) i i h3 (by omega)
    rw [show ((i : Int) - 0).toNat = i by omega] at h5
    rw [List.getElem?_eq_getElem h1] at h4
    rw [List.getElem?_eq_getElem h2] at h5
    rw [Option.some.inj h4, Option.some.inj h5]
  · rintro rfl
    unfold mkL
    rw [kp_self, keptR_run 0 0 (Int.le_refl _), betw_un]
    simp [betw]
theorem gr_step (x y : List Int) (j i : Nat) (hj : j < x.length) (hi : i < y.length) : gr (x.drop j) (y.drop i) = if x[j] = y[i] then gr (x.drop (j + 1)) (y.drop (i + 1)) + 1 else gr (x.drop j) (y.drop (i + 1)) := by
  rw [List.drop_eq_getElem_cons hj, List.drop_eq_getElem_cons hi, gr]
theorem gr_end (x y : List Int) (j i : Nat) (h : x.length ≤ j ∨ y.length ≤ i) : gr (x.drop j) (y.drop i) = 0 := by
  rcases h with h | h
  · rw [List.drop_of_length_le h]; cases y.drop i <;> rfl
  · rw [List.drop_of_length_le h]; cases x.drop j <;> rfl

end Go.Proofs.YtjhanfiohfakoaaGreatDoor

/- The reference's Make, walked. -/
set_option maxRecDepth 20000
namespace Go.Proofs.YtjhanfiohfakoaaGreatDoor
open Go.RowKit

set_option maxRecDepth 10000 in
set_option maxHeartbeats 4000000 in
theorem rMake_f (K : List Int) (m : Int) (L : List Ch) (v : Value) (w : World) (hK : HI w v K) (hlen : K.length ≤ 1048576) (hV : Hid (Vk 0 m K)) (hm0 : 0 ≤ m) (hm : m ≤ 2147483647) (hL : Hid (mkL K m = L)) :
    Calls Tryz.prog 36 #[v, .int .i64 m] w fun e w' => ∃ v', e = .returned (.tuple #[v', .int .i64 0]) ∧ HCh w' v' L ∧ Below w.heap.size w w' := by
  obtain ⟨ao, ca, rfl⟩ := Holds.form hK
  go_enter Tryz.func36, Tryz.ntmps36
  go_wp2
  go_loopw [6, 7] (fun lv iv wr => ∃ (k : Nat) (la : Int), k ≤ K.length ∧ lv = .int .i64 la ∧ iv = .int .i64 (k : Int) ∧ -1 ≤ la ∧ la ≤ m ∧ w = wr ∧ Hid (Vk (la + 1) m (K.drop k))) (fun _ iv _ => K.length - (intOf iv).toNat)
  case atStart => exact ⟨0, -1, Nat.zero_le _, rfl, rfl, by omega, by omega, rfl, hV⟩
  case round =>
    obtain ⟨k, la, hk, rfl, rfl, hl0, hl1, rfl, hR⟩ := hrel
    by_cases hlt : k < K.length
    · obtain ⟨bk, off, rfl, hbk, hc⟩ := HI.at hK (by omega)
      have c0 := hc k hlt
      have hR' := hR.out
      rw [List.drop_eq_getElem_cons hlt] at hR'
      obtain ⟨z, hzd⟩ : ∃ z, K[k] = z := ⟨_, rfl⟩
      rw [hzd] at hR' c0
      clear hc hzd hR
      have i1 : 0 ≤ (k : Int) := by omega
      have i2 : (k : Int) < (K.length : Int) := by omega
      by_cases hz : z = -1
      · subst hz
        have HR : Hid (Vk (la + 1) m (K.drop (k + 1))) := (by
          rcases hR' with ⟨_, h1⟩ | ⟨h1, _⟩
          · exact h1
          · exact absurd rfl h1)
        clear hR'
        go_wp2
        go_roundw
        case rel => exact ⟨k + 1, la, by omega, rfl, by go_num, hl0, hl1, by first | rfl | trivial, HR⟩
        case measure => simp [intOf]; omega
      · have hq : la + 1 ≤ z ∧ z < m ∧ Vk (z + 1) m (K.drop (k + 1)) := by
          rcases hR' with ⟨h1, _⟩ | ⟨_, h1⟩
          · exact absurd h1 hz
          · exact h1
        obtain ⟨q1, q2, q3⟩ := hq
        have HR : Hid (Vk (z + 1) m (K.drop (k + 1))) := q3
        clear hR' q3
        have hz2 : decide (z = -1) = false := decide_eq_false hz
        have n1 : ¬ z ≤ la := by omega
        have n2 : ¬ m ≤ z := by omega
        go_wp2
        go_roundw
        case rel => exact ⟨k + 1, z, by omega, rfl, by go_num, by omega, by omega, by first | rfl | trivial, HR⟩
        case measure => simp [intOf]; omega
    · have n0 : ¬ m < 0 := by omega
      have i2 : ¬ (k : Int) < (K.length : Int) := by omega
      clear hR
      go_wp2
      go_loopw [8, 9, 10, 11] (fun ov av bv iv wr => ∃ (k : Nat) (a b : Int) (X : List Ch), k ≤ K.length + 1 ∧ (∃ oo oc, ov = .slice oo X.length oc) ∧ av = .int .i64 a ∧ bv = .int .i64 b ∧ iv = .int .i64 (k : Int) ∧ 0 ≤ a ∧ a ≤ k ∧ 0 ≤ b ∧ b ≤ m + 1 ∧ St w 53 4 ov X.length (chcells X) wr ∧ X.length ≤ k ∧ Hid ((k ≤ K.length → Vk b m (K.drop k) ∧ b ≤ m ∧ X ++ betw a b (keptR k (K.drop k) ++ [⟨K.length, m, 0⟩]) = L) ∧ (k = K.length + 1 → X = L))) (fun _ _ _ iv _ => K.length + 1 - (intOf iv).toNat)
      case atStart => exact ⟨0, 0, 0, [], Nat.zero_le _, ⟨_, _, rfl⟩, rfl, rfl, rfl, by omega, by omega, by omega, by omega, ⟨World.ownsRow_nil _ _ _ _, Below.refl _ w⟩, Nat.zero_le _, ⟨fun _ => ⟨hV.out, hm0, hL.out⟩, fun h => by omega⟩⟩
      case round =>
        clear hlt i2 hk
        obtain ⟨k, a, b, X, hk, ⟨oo, oc, rfl⟩, rfl, rfl, rfl, ha0, ha1, hb0, hb1, hSt, hX, hR⟩ := hrel
        have hsz := hSt.low.size
        by_cases hlt : k < K.length
        · obtain ⟨bk, off, rfl, hbk, hc⟩ := HI.at (HI.keep hK hSt.low (Nat.le_refl _)) (by omega)
          have c0 := hc k hlt
          have hR' := hR.out.1 (by omega)
          rw [List.drop_eq_getElem_cons hlt] at hR'
          obtain ⟨z, hzd⟩ : ∃ z, K[k] = z := ⟨_, rfl⟩
          rw [hzd] at hR' c0
          clear hc hzd hR
          have i1 : 0 ≤ (k : Int) := by omega
          have i2 : (k : Int) < (K.length : Int) := by omega
          have i3 : (k : Int) ≤ (K.length : Int) := by omega
          by_cases hz : z = -1
          · subst hz
            have HR : Hid ((k + 1 ≤ K.length → Vk b m (K.drop (k + 1)) ∧ b ≤ m ∧ X ++ betw a b (keptR (k + 1 : Nat) (K.drop (k + 1)) ++ [⟨K.length, m, 0⟩]) = L) ∧ (k + 1 = K.length + 1 → X = L)) := (by
              obtain ⟨h1, h2, h3⟩ := hR'
              rw [keptR, if_pos rfl] at h3
              rcases h1 with ⟨_, h1⟩ | ⟨h1, _⟩
              · exact ⟨fun _ => ⟨h1, h2, h3⟩, fun h => by omega⟩
              · exact absurd rfl h1)
            clear hR'
            go_wp2
            go_roundw
            case rel => exact ⟨k + 1, a, b, X, by omega, ⟨_, _, rfl⟩, rfl, rfl, by go_num, ha0, by omega, hb0, hb1, hSt, by omega, HR⟩
            case measure => simp [intOf]; omega
          · have hq : b ≤ z ∧ z < m ∧ Vk (z + 1) m (K.drop (k + 1)) := by
              rcases hR'.1 with ⟨h1, _⟩ | ⟨_, h1⟩
              · exact absurd h1 hz
              · exact h1
            obtain ⟨q1, q2, q3⟩ := hq
            have hz2 : decide (z = -1) = false := decide_eq_false hz
            have h3 := hR'.2.2
            rw [keptR, if_neg hz, List.cons_append, betw] at h3
            dsimp only at h3
            clear hR'
            by_cases hcd : a < (k : Int) ∨ b < z
            · rw [if_pos hcd] at h3
              have HR : Hid ((k + 1 ≤ K.length → Vk (z + 1) m (K.drop (k + 1)) ∧ z + 1 ≤ m ∧ X ++ [⟨a, (k : Int) - a, b, z - b⟩] ++ betw ((k : Int) + 1) (z + 1) (keptR (k + 1 : Nat) (K.drop (k + 1)) ++ [⟨K.length, m, 0⟩]) = L) ∧ (k + 1 = K.length + 1 → X ++ [⟨a, (k : Int) - a, b, z - b⟩] = L)) := ⟨fun _ => ⟨q3, by omega, by rw [← h3]; simp⟩, fun h => by omega⟩
              clear h3 q3
              by_cases hak : a < (k : Int)
              · have n5 : decide (a < (k : Int)) = true := decide_eq_true hak
                go_wp2_with (at_builtin; refine wpList_append_h _ (by kernel_rfl) (.tmp 69) (.tmp 79) 25 53 (.agg #[.int .i64 0, .int .i64 0, .int .i64 0, .int .i64 0]) 4 32 rfl Tryz.underlying25 infoCh rfl (by decide) (by decide) w.heap.size _ _ _ rfl (hSt.own.alloc _) _ 1 (chcells [⟨a, (k : Int) - a, b, z - b⟩]) rfl (new_holds _ _ _ _ _ (by decide)) rfl (chcells_one _) (by omega) (by simp; omega) ?_)
                intro v2 w2 hown2 hgrow2
                have hSt2 := (st_alloc (Obj.cells #[Value.int IntKind.i64 a, Value.int IntKind.i64 ((k : Int) - a), Value.int IntKind.i64 b, Value.int IntKind.i64 (z - b)] 53) hSt).grown hown2 hgrow2
                obtain ⟨oo2, oc2, rfl⟩ := (holds_of hown2).form
                rw [← chcells_append] at hSt2
                clear hown2 hgrow2 c0
                go_wp2
                go_roundw
                case rel => exact ⟨k + 1, (k : Int) + 1, z + 1, X ++ [⟨a, (k : Int) - a, b, z - b⟩], by omega, ⟨_, _, by rw [List.length_append]; rfl⟩, by go_num, by go_num, by go_num, by omega, by omega, by omega, by omega, by rw [List.length_append]; exact hSt2, by simp; omega, HR⟩
                case measure => simp [intOf]; omega
              · have n6 : b < z := by omega
                go_wp2_with (at_builtin; refine wpList_append_h _ (by kernel_rfl) (.tmp 69) (.tmp 79) 25 53 (.agg #[.int .i64 0, .int .i64 0, .int .i64 0, .int .i64 0]) 4 32 rfl Tryz.underlying25 infoCh rfl (by decide) (by decide) w.heap.size _ _ _ rfl (hSt.own.alloc _) _ 1 (chcells [⟨a, (k : Int) - a, b, z - b⟩]) rfl (new_holds _ _ _ _ _ (by decide)) rfl (chcells_one _) (by omega) (by simp; omega) ?_)
                intro v2 w2 hown2 hgrow2
                have hSt2 := (st_alloc (Obj.cells #[Value.int IntKind.i64 a, Value.int IntKind.i64 ((k : Int) - a), Value.int IntKind.i64 b, Value.int IntKind.i64 (z - b)] 53) hSt).grown hown2 hgrow2
                obtain ⟨oo2, oc2, rfl⟩ := (holds_of hown2).form
                rw [← chcells_append] at hSt2
                clear hown2 hgrow2 c0
                go_wp2
                go_roundw
                case rel => exact ⟨k + 1, (k : Int) + 1, z + 1, X ++ [⟨a, (k : Int) - a, b, z - b⟩], by omega, ⟨_, _, by rw [List.length_append]; rfl⟩, by go_num, by go_num, by go_num, by omega, by omega, by omega, by omega, by rw [List.length_append]; exact hSt2, by simp; omega, HR⟩
                case measure => simp [intOf]; omega
            · rw [if_neg hcd] at h3
              have HR : Hid ((k + 1 ≤ K.length → Vk (z + 1) m (K.drop (k + 1)) ∧ z + 1 ≤ m ∧ X ++ betw ((k : Int) + 1) (z + 1) (keptR (k + 1 : Nat) (K.drop (k + 1)) ++ [⟨K.length, m, 0⟩]) = L) ∧ (k + 1 = K.length + 1 → X = L)) := ⟨fun _ => ⟨q3, by omega, h3⟩, fun h => by omega⟩
              clear h3 q3
              have n3 : ¬ a < (k : Int) := by omega
              have n4 : ¬ b < z := by omega
              go_wp2
              go_roundw
              case rel => exact ⟨k + 1, (k : Int) + 1, z + 1, X, by omega, ⟨_, _, rfl⟩, by go_num, by go_num, by go_num, by omega, by omega, by omega, by omega, hSt, by omega, HR⟩
              case measure => simp [intOf]; omega
        · by_cases hke : k = K.length
          · have hR' := (hR.out.1 (by omega)).2
            rw [List.drop_of_length_le (by omega), keptR, List.nil_append, betw, betw] at hR'
            dsimp only at hR'
            have HKE : Hid (k = K.length) := hke
            have i2 : ¬ (k : Int) < (K.length : Int) := by omega
            have i3 : (k : Int) ≤ (K.length : Int) := by omega
            have hz2 : decide (m = -1) = false := decide_eq_false (by omega)
            obtain ⟨hbm, h3⟩ := hR'
            rw [← hke] at h3
            clear hR hke
            by_cases hcd : a < (k : Int) ∨ b < m
            · rw [if_pos hcd] at h3
              have HR : Hid ((k + 1 ≤ K.length → Vk (m + 1) m (K.drop (k + 1)) ∧ m + 1 ≤ m ∧ X ++ [⟨a, (k : Int) - a, b, m - b⟩] ++ betw ((k : Int) + 1) (m + 1) (keptR (k + 1 : Nat) (K.drop (k + 1)) ++ [⟨K.length, m, 0⟩]) = L) ∧ (k + 1 = K.length + 1 → X ++ [⟨a, (k : Int) - a, b, m - b⟩] = L)) := ⟨fun h => by have := HKE.out; omega, fun _ => h3⟩
              clear h3
              by_cases hak : a < (k : Int)
              · have n5 : decide (a < (k : Int)) = true := decide_eq_true hak
                go_wp2_with (at_builtin; refine wpList_append_h _ (by kernel_rfl) (.tmp 69) (.tmp 79) 25 53 (.agg #[.int .i64 0, .int .i64 0, .int .i64 0, .int .i64 0]) 4 32 rfl Tryz.underlying25 infoCh rfl (by decide) (by decide) w.heap.size _ _ _ rfl (hSt.own.alloc _) _ 1 (chcells [⟨a, (k : Int) - a, b, m - b⟩]) rfl (new_holds _ _ _ _ _ (by decide)) rfl (chcells_one _) (by omega) (by simp; omega) ?_)
                intro v2 w2 hown2 hgrow2
                have hSt2 := (st_alloc (Obj.cells #[Value.int IntKind.i64 a, Value.int IntKind.i64 ((k : Int) - a), Value.int IntKind.i64 b, Value.int IntKind.i64 (m - b)] 53) hSt).grown hown2 hgrow2
                obtain ⟨oo2, oc2, rfl⟩ := (holds_of hown2).form
                rw [← chcells_append] at hSt2
                clear hown2 hgrow2
                go_wp2
                go_roundw
                case rel => exact ⟨k + 1, (k : Int) + 1, m + 1, X ++ [⟨a, (k : Int) - a, b, m - b⟩], by omega, ⟨_, _, by rw [List.length_append]; rfl⟩, by go_num, by go_num, by go_num, by omega, by omega, by omega, by omega, by rw [List.length_append]; exact hSt2, by simp; omega, HR⟩
                case measure => simp [intOf]; omega
              · have n6 : b < m := by omega
                go_wp2_with (at_builtin; refine wpList_append_h _ (by kernel_rfl) (.tmp 69) (.tmp 79) 25 53 (.agg #[.int .i64 0, .int .i64 0, .int .i64 0, .int .i64 0]) 4 32 rfl Tryz.underlying25 infoCh rfl (by decide) (by decide) w.heap.size _ _ _ rfl (hSt.own.alloc _) _ 1 (chcells [⟨a, (k : Int) - a, b, m - b⟩]) rfl (new_holds _ _ _ _ _ (by decide)) rfl (chcells_one _) (by omega) (by simp; omega) ?_)
                intro v2 w2 hown2 hgrow2
                have hSt2 := (st_alloc (Obj.cells #[Value.int IntKind.i64 a, Value.int IntKind.i64 ((k : Int) - a), Value.int IntKind.i64 b, Value.int IntKind.i64 (m - b)] 53) hSt).grown hown2 hgrow2
                obtain ⟨oo2, oc2, rfl⟩ := (holds_of hown2).form
                rw [← chcells_append] at hSt2
                clear hown2 hgrow2
                go_wp2
                go_roundw
                case rel => exact ⟨k + 1, (k : Int) + 1, m + 1, X ++ [⟨a, (k : Int) - a, b, m - b⟩], by omega, ⟨_, _, by rw [List.length_append]; rfl⟩, by go_num, by go_num, by go_num, by omega, by omega, by omega, by omega, by rw [List.length_append]; exact hSt2, by simp; omega, HR⟩
                case measure => simp [intOf]; omega
            · rw [if_neg hcd] at h3
              have HR : Hid ((k + 1 ≤ K.length → Vk (m + 1) m (K.drop (k + 1)) ∧ m + 1 ≤ m ∧ X ++ betw ((k : Int) + 1) (m + 1) (keptR (k + 1 : Nat) (K.drop (k + 1)) ++ [⟨K.length, m, 0⟩]) = L) ∧ (k + 1 = K.length + 1 → X = L)) := ⟨fun h => by have := HKE.out; omega, fun _ => by rw [← h3]; simp⟩
              clear h3
              have n3 : ¬ a < (k : Int) := by omega
              have n4 : ¬ b < m := by omega
              go_wp2
              go_roundw
              case rel => exact ⟨k + 1, (k : Int) + 1, m + 1, X, by omega, ⟨_, _, rfl⟩, by go_num, by go_num, by go_num, by omega, by omega, by omega, by omega, hSt, by omega, HR⟩
              case measure => simp [intOf]; omega
          · obtain rfl : k = K.length + 1 := by omega
            obtain rfl := hR.out.2 rfl
            have i2 : ¬ ((K.length : Int) + 1) ≤ (K.length : Int) := by omega
            go_wp2
            go_ret2
            exact ⟨_, rfl, holds_of hSt.own, hSt.low⟩
end Go.Proofs.YtjhanfiohfakoaaGreatDoor

/- The reference's table of lengths, filled: table, walked. -/
set_option maxRecDepth 20000
namespace Go.Proofs.YtjhanfiohfakoaaGreatDoor
open Go.RowKit

theorem infoInts : (Tryz.prog.info? 35).map (fun i => (i.zero, i.size, i.bytes)) = some (some (.slice none 0 0), 1, 24) := by kernel_rfl
/-- make([]T, n) -/
theorem run_makeN {T E : TypeId} {z : Value} {bytes : Nat} (hT : Tryz.prog.underlying T = some (.slice E)) (hinfo : (Tryz.prog.info? E).map (fun i => (i.zero, i.size, i.bytes)) = some (some z, 1, bytes)) (hby : bytes ≤ 32) (n : Int) (N : Nat) (hn : n = (N : Int)) (hN : N ≤ 1099511627776) (W : World) :
    (Instr.makeSlice T (.int .i64 n) (.int .i64 n)).run Tryz.prog W = .ok (.slice (some ⟨W.heap.size, 0, none⟩) N N) (W.alloc (.cells (madeCells z.cells N) E)) := by
  subst hn
  obtain ⟨i0, hi, hz0, hzs, hz2⟩ := info_parts hinfo
  have h1 : i0.bytes * N ≤ 32 * 1099511627776 := by rw [hz2]; exact Nat.mul_le_mul hby hN
  have hr := run_make (P := Tryz.prog) W T E i0 z hT hi hz0 .i64 .i64 (N : Int) (N : Int) (by omega) (Int.le_refl _) (by
    have : ((i0.bytes * N : Nat) : Int) ≤ 281474976710656 := by omega
    rwa [Int.natCast_mul] at this) (by omega)
  simpa [hzs] using hr
theorem madeL (z : Value) (N : Nat) : (madeCells #[z] N).toList = List.replicate N z := by
  apply List.ext_getElem
  · simp [madeCells]
  · intro i h1 h2
    simp [madeCells, Nat.mod_one]

/-- where row k lies -/
def rowB (B X k : Nat) : Nat := B + 1 + (X - k)
/-- a row as a value -/
def rowV (B X Y k : Nat) : Value := .slice (some ⟨rowB B X k, 0, none⟩) (Y + 1) (Y + 1)
/-- the state of the walk: rows from i on are made, those behind it are filled, row i from c on -/
structure Tb (w : World) (x y : List Int) (i c : Nat) (TS : List Value) (u : World) : Prop where
  low : Below w.heap.size w u
  size : u.heap.size = w.heap.size + 1 + (x.length + 1 - i)
  top : u.ownsRow w.heap.size 35 1 (.slice (some ⟨w.heap.size, 0, none⟩) (x.length + 1) (x.length + 1)) (x.length + 1) TS
  tops : ∀ k, i ≤ k → k ≤ x.length → TS[k]? = some (rowV w.heap.size x.length y.length k)
  rows : ∀ k, i ≤ k → k ≤ x.length → ∃ R, u.ownsRow w.heap.size 3 1 (rowV w.heap.size x.length y.length k) (y.length + 1) R ∧ ∀ j, j ≤ y.length → (i < k ∨ c ≤ j ∨ j = y.length ∨ k = x.length) → R[j]? = some (.int .i64 ((ln x y k j : Nat) : Int))
section
variable {w u : World} {x y : List Int} {i c : Nat} {TS : List Value}
theorem Tb.drewN (h : Tb w x y i c TS u) (n : Nat) : Tb w x y i c TS (u.drewN n) := ⟨Below.dN h.low n, h.size, h.top, h.tops, h.rows⟩
theorem Tb.top_len (h : Tb w x y i c TS u) : TS.length = x.length + 1 := by rw [h.top.1, Nat.mul_one]
theorem Tb.top_at (h : Tb w x y i c TS u) {k : Nat} (hi : i ≤ k) (hk : k ≤ x.length) : u.cell? ⟨w.heap.size, k, none⟩ = some (rowV w.heap.size x.length y.length k) := by
  rw [h.top.cellAt k (by omega)]
  exact h.tops k hi hk
theorem Tb.at (h : Tb w x y i c TS u) {k j : Nat} (hi : i ≤ k) (hk : k ≤ x.length) (hj : j ≤ y.length) (hc : i < k ∨ c ≤ j ∨ j = y.length ∨ k = x.length) : u.cell? ⟨rowB w.heap.size x.length k, j, none⟩ = some (.int .i64 ((ln x y k j : Nat) : Int)) := by
  obtain ⟨R, hR, hv⟩ := h.rows k hi hk
  unfold rowV at hR
  rw [hR.cellAt j (by omega)]
  exact hv j hj hc
theorem Tb.any_at (h : Tb w x y i c TS u) {j : Nat} (hi : i ≤ x.length) (hj : j ≤ y.length) : (∃ z, u.cell? ⟨rowB w.heap.size x.length i, j, none⟩ = some z) ∧ u.frozen? ⟨rowB w.heap.size x.length i, j, none⟩ = false := by
  obtain ⟨R, hR, hv⟩ := h.rows i (Nat.le_refl _) hi
  unfold rowV at hR
  refine ⟨?_, hR.frozenAt j⟩
  rw [hR.cellAt j (by omega)]
  have : R.length = y.length + 1 := by rw [hR.1, Nat.mul_one]
  exact ⟨R[j], List.getElem?_eq_getElem (by omega)⟩
theorem size_set (W : World) (b o : Nat) (v : Value) : (W.setCell ⟨b, o, none⟩ v).heap.size = W.heap.size := by
  show (W.heap.modify b _).size = _
  simp
theorem Tb.skip (h : Tb w x y i (c + 1) TS u) (hc : c = y.length ∨ i = x.length) : Tb w x y i c TS u := by
  refine ⟨h.low, h.size, h.top, h.tops, fun k h1 h2 => ?_⟩
  obtain ⟨R, hR, hv⟩ := h.rows k h1 h2
  exact ⟨R, hR, fun j hj hq => hv j hj (by omega)⟩
theorem Tb.next (h : Tb w x y (i + 1) 0 TS u) (hi : i ≤ x.length) (hY : y.length ≤ 1048576) : Tb w x y i (y.length + 1) (TS.set i (rowV w.heap.size x.length y.length i)) ((u.alloc (.cells (madeCells #[.int .i64 0] (y.length + 1)) 3)).setCell ⟨w.heap.size, i, none⟩ (rowV w.heap.size x.length y.length i)) := by
  have hsz : u.heap.size = rowB w.heap.size x.length i := by rw [h.size]; unfold rowB; omega
  obtain ⟨p1, g1⟩ := (h.top.alloc (.cells (madeCells #[.int .i64 0] (y.length + 1)) 3)).stored i (rowV w.heap.size x.length y.length i)
  refine ⟨?_, ?_, p1, fun k h1 h2 => ?_, fun k h1 h2 => ?_⟩
  · exact (h.low.alloc h.low.size _).grown g1 (by rw [World.size_alloc]; have := h.low.size; omega) (fun j hj => by cases hj; exact Nat.le_refl _)
  · rw [size_set, World.size_alloc, h.size]
    omega
  · by_cases e : k = i
    · subst e
      rw [List.getElem?_set_self (by rw [h.top_len]; omega)]
    · rw [List.getElem?_set_ne (fun q => e q.symm)]
      exact h.tops k (by omega) h2
  · by_cases e : k = i
    · subst e
      have hn := World.ownsRow_lit (base := w.heap.size) (e := 3) (size := 1) u (madeCells #[.int .i64 0] (y.length + 1)) (y.length + 1) h.low.size (by unfold maxLen; omega) (by rw [size_madeCells]; simp)
      rw [madeL, hsz] at hn
      refine ⟨_, hn.kept g1 (.inr (by simp [Value.ownBlock, rowB]; omega)), fun j hj hq => ?_⟩
      rw [List.getElem?_replicate, if_pos (by omega), ln_end x y k j (by omega)]
      rfl
    · obtain ⟨R, hR, hv⟩ := h.rows k (by omega) h2
      exact ⟨R, (hR.alloc _).kept g1 (.inr (by unfold rowV rowB; simp [Value.ownBlock]; omega)), fun j hj hq => hv j hj (by omega)⟩
theorem Tb.set (h : Tb w x y i (c + 1) TS u) (hi : i ≤ x.length) (hc : c ≤ y.length) (v : Int) (hv : v = ((ln x y i c : Nat) : Int)) : Tb w x y i c TS (u.setCell ⟨rowB w.heap.size x.length i, c, none⟩ (.int .i64 v)) := by
  subst hv
  obtain ⟨R, hR, hr⟩ := h.rows i (Nat.le_refl _) hi
  have hR' := hR
  unfold rowV at hR'
  obtain ⟨p1, g1⟩ := hR'.stored c (.int .i64 ((ln x y i c : Nat) : Int))
  have hl : R.length = y.length + 1 := by rw [hR.1, Nat.mul_one]
  refine ⟨?_, ?_, ?_, h.tops, fun k h1 h2 => ?_⟩
  · exact h.low.grown g1 h.low.size (fun j hj => by cases hj; unfold rowB; omega)
  · rw [size_set, h.size]
  · exact h.top.kept g1 (.inr (by simp [Value.ownBlock, rowB]; omega))
  · by_cases e : k = i
    · subst e
      refine ⟨_, p1, fun j hj hq => ?_⟩
      by_cases q : j = c
      · subst q
        rw [List.getElem?_set_self (by omega)]
      · rw [List.getElem?_set_ne (fun q' => q q'.symm)]
        exact hr j hj (by omega)
    · obtain ⟨R2, hR2, hv2⟩ := h.rows k h1 h2
      exact ⟨R2, hR2.kept g1 (.inr (by unfold rowV rowB; simp [Value.ownBlock]; omega)), fun j hj hq => hv2 j hj (by omega)⟩
end
theorem Tb.start (w : World) (x y : List Int) (hX : x.length ≤ 1048576) : Tb w x y (x.length + 1) 0 (List.replicate (x.length + 1) (.slice none 0 0)) (w.alloc (.cells (madeCells #[.slice none 0 0] (x.length + 1)) 35)) := by
  have hn := World.ownsRow_lit (base := w.heap.size) (e := 35) (size := 1) w (madeCells #[.slice none 0 0] (x.length + 1)) (x.length + 1) (Nat.le_refl _) (by unfold maxLen; omega) (by rw [size_madeCells]; simp)
  rw [madeL] at hn
  exact ⟨(Below.refl _ w).alloc (Nat.le_refl _) _, by simp, hn, fun k h1 h2 => by omega, fun k h1 h2 => by omega⟩
/-- what the table tells -/
structure Rd (B : Nat) (x y : List Int) (u : World) : Prop where
  lt : B + 1 + x.length < u.heap.size
  top : ∀ k, k ≤ x.length → u.cell? ⟨B, k, none⟩ = some (rowV B x.length y.length k)
  at' : ∀ k j, k ≤ x.length → j ≤ y.length → u.cell? ⟨rowB B x.length k, j, none⟩ = some (.int .i64 ((ln x y k j : Nat) : Int))
theorem cell_keep {u u' : World} (h : Below u.heap.size u u') {b o : Nat} {v : Value} (hb : b < u.heap.size) (hc : u.cell? ⟨b, o, none⟩ = some v) : u'.cell? ⟨b, o, none⟩ = some v := by
  rw [← hc]
  unfold World.cell?
  rw [h.block b hb]
theorem Rd.keep {B : Nat} {x y : List Int} {u u' : World} (h : Rd B x y u) (hb : Below u.heap.size u u') : Rd B x y u' := by
  have := h.lt
  refine ⟨Nat.lt_of_lt_of_le h.lt hb.size, fun k hk => cell_keep hb (by omega) (h.top k hk), fun k j hk hj => cell_keep hb ?_ (h.at' k j hk hj)⟩
  unfold rowB
  omega
theorem Tb.rd {w u : World} {x y : List Int} {TS : List Value} (h : Tb w x y 0 0 TS u) : Rd w.heap.size x y u :=
  ⟨by rw [h.size]; omega, fun _ hk => h.top_at (Nat.zero_le _) hk, fun _ _ hk hj => h.at (Nat.zero_le _) hk hj (.inr (.inl (Nat.zero_le _)))⟩

set_option maxRecDepth 10000 in
set_option maxHeartbeats 4000000 in
theorem table_f (x y : List Int) (vx vy : Value) (w : World) (hx : HI w vx x) (hy : HI w vy y) (hxl : x.length ≤ 4096) (hyl : y.length ≤ 4096) :
    Calls Tryz.prog 56 #[vx, vy] w fun e w' => e = .returned (.slice (some ⟨w.heap.size, 0, none⟩) (x.length + 1) (x.length + 1)) ∧ Rd w.heap.size x y w' ∧ Below w.heap.size w w' := by
  obtain ⟨xo, xc, rfl⟩ := Holds.form hx
  obtain ⟨yo, yc, rfl⟩ := Holds.form hy
  have hmk1 := run_makeN (T := 103) Tryz.underlying103 infoInts (by decide) ((x.length : Int) + 1) (x.length + 1) (by simp) (by omega)
  have hmk2 := run_makeN (T := 35) Tryz.underlying35 infoInt (by decide) ((y.length : Int) + 1) (y.length + 1) (by simp) (by omega)
  have hst := Tb.start w x y (by omega)
  go_enter Tryz.func56, Tryz.ntmps56
  go_wp2
  go_loopw [6] (fun iv wr => ∃ (k : Nat) (z : Int) (TS : List Value), k ≤ x.length + 1 ∧ iv = .int .i64 z ∧ z + 1 = k ∧ Tb w x y k 0 TS wr) (fun iv _ => (intOf iv + 1).toNat)
  case atStart => exact ⟨x.length + 1, (x.length : Int), _, Nat.le_refl _, rfl, by simp, hst⟩
  case round =>
    clear hst hmk1
    obtain ⟨k, z, TS, hk, rfl, hz, hS⟩ := hrel
    cases k with
    | zero =>
      obtain rfl : z = -1 := by omega
      go_wp2
      go_ret
      exact ⟨rfl, hS.rd, hS.low⟩
    | succ i =>
      obtain rfl : z = (i : Int) := by omega
      clear hz
      have c0 := hS.top.cellAt i (by omega)
      rw [List.getElem?_eq_getElem (by rw [hS.top_len]; omega)] at c0
      obtain ⟨z0, hz0⟩ : ∃ z, TS[i]'(by rw [hS.top_len]; omega) = z := ⟨_, rfl⟩
      rw [hz0] at c0
      have f0 := hS.top.frozenAt i
      clear hz0
      have i1 : 0 ≤ (i : Int) := by omega
      have i2 : (i : Int) < (x.length : Int) + 1 := by omega
      have hsz : wr.heap.size = rowB w.heap.size x.length i := by rw [hS.size]; unfold rowB; omega
      have hN := hS.next (by omega) (by omega)
      unfold rowV at hN
      have c0' : (wr.alloc (Obj.cells (madeCells #[Value.int IntKind.i64 0] (y.length + 1)) 3)).cell? ⟨w.heap.size, i, none⟩ = some z0 := cell_keep ((Below.refl _ wr).alloc (Nat.le_refl _) _) (by rw [hS.size]; omega) c0
      have f0' : (wr.alloc (Obj.cells (madeCells #[Value.int IntKind.i64 0] (y.length + 1)) 3)).frozen? ⟨w.heap.size, i, none⟩ = false := (hS.top.alloc _).frozenAt i
      clear c0 f0
      go_wp2
      go_loopw [7] (fun jv wi => ∃ (c : Nat) (z : Int) (TS' : List Value), c ≤ y.length + 1 ∧ jv = .int .i64 z ∧ z + 1 = c ∧ Tb w x y i c TS' wi) (fun jv _ => (intOf jv + 1).toNat)
      case atStart => exact ⟨y.length + 1, (y.length : Int), _, Nat.le_refl _, rfl, by simp, hN⟩
      case round =>
        clear hS c0' f0' hN hsz hmk2
        obtain ⟨c, z, TS', hc, rfl, hz, hS⟩ := hrel
        cases c with
        | zero =>
          obtain rfl : z = -1 := by omega
          go_wp2
          go_roundw
          case rel => exact ⟨i, (i : Int) - 1, TS', by omega, by go_num, by omega, hS⟩
          case measure => simp [intOf]
        | succ j =>
          obtain rfl : z = (j : Int) := by omega
          clear hz
          by_cases he : i = x.length
          · have hS' := hS.skip (.inr he)
            have he' : decide ((i : Int) = (x.length : Int)) = true := decide_eq_true (by omega)
            clear i2
            go_wp2
            go_roundw
            case rel => exact ⟨j, (j : Int) - 1, TS', by omega, by go_num, by omega, hS'⟩
            case measure => simp [intOf]
          · have he' : ((i : Int) == (x.length : Int)) = false := by simp; omega
            by_cases hf : j = y.length
            · have hS' := hS.skip (.inl hf)
              have hf' : decide ((j : Int) = (y.length : Int)) = true := decide_eq_true (by omega)
              go_wp2
              go_roundw
              case rel => exact ⟨j, (j : Int) - 1, TS', by omega, by go_num, by omega, hS'⟩
              case measure => simp [intOf]; omega
            · have hf' : ((j : Int) == (y.length : Int)) = false := by simp; omega
              obtain ⟨bx, ox, rfl, _, hcx⟩ := HI.at (HI.keep hx hS.low (Nat.le_refl _)) (by omega)
              obtain ⟨by', oy, rfl, _, hcy⟩ := HI.at (HI.keep hy hS.low (Nat.le_refl _)) (by omega)
              have d1 := hcx i (by omega)
              have d2 := hcy j (by omega)
              have hln := ln_step x y i j (by omega) (by omega)
              obtain ⟨xi, hxi⟩ : ∃ z, x[i] = z := ⟨_, rfl⟩
              obtain ⟨yj, hyj⟩ : ∃ z, y[j] = z := ⟨_, rfl⟩
              rw [hxi] at d1 hln
              rw [hyj] at d2 hln
              clear hcx hcy hxi hyj
              have t1 := hS.top_at (k := i) (Nat.le_refl _) (by omega)
              have t2 := hS.top_at (k := i + 1) (by omega) (by omega)
              have r1 := hS.at (k := i + 1) (j := j + 1) (by omega) (by omega) (by omega) (by omega)
              have r2 := hS.at (k := i + 1) (j := j) (by omega) (by omega) (by omega) (by omega)
              have r3 := hS.at (k := i) (j := j + 1) (by omega) (by omega) (by omega) (by omega)
              obtain ⟨⟨z0, c0⟩, f0⟩ := hS.any_at (j := j) (by omega) (by omega)
              unfold rowV at t1 t2
              have hgen : ∀ (n : Nat) (v : Int), v = ((ln x y i j : Nat) : Int) → Tb w x y i j TS' ((wr.drewN n).setCell ⟨rowB w.heap.size x.length i, j, none⟩ (.int .i64 v)) := fun n v hv => (hS.drewN n).set (by omega) (by omega) v hv
              have HLN : Hid (ln x y i j = if xi = yj then ln x y (i + 1) (j + 1) + 1 else max (ln x y (i + 1) j) (ln x y i (j + 1))) := hln
              have b1 := ln_le x y (i + 1) (j + 1)
              have b2 := ln_le x y (i + 1) j
              have b3 := ln_le x y i (j + 1)
              clear hln
              have j1 : 0 ≤ (j : Int) := by omega
              have j2 : (j : Int) < (y.length : Int) := by omega
              have j3 : (j : Int) + 1 < (y.length : Int) + 1 := by omega
              have j4 : (j : Int) < (y.length : Int) + 1 := by omega
              have i3 : (i : Int) + 1 < (x.length : Int) + 1 := by omega
              have i4 : (i : Int) < (x.length : Int) := by omega
              generalize rowB w.heap.size x.length i = gi at *
              generalize rowB w.heap.size x.length (i + 1) = gj at *
              by_cases hxy : xi = yj
              · have HL : Hid (ln x y i j = ln x y (i + 1) (j + 1) + 1) := (by show _ = _; rw [HLN.out, if_pos hxy])
                clear HLN r2 r3 b2 b3
                generalize ln x y (i + 1) (j + 1) = a1 at *
                have hxy' : decide (xi = yj) = true := decide_eq_true hxy
                go_wp2_with fail
                go_quiet (fail)
                go_wp2_with fail
                go_region
                go_wp2
                exact ⟨⟨j, (j : Int) - 1, TS', by omega, by go_num, by omega, hgen _ _ (by rw [HL.out]; simp)⟩, by simp [intOf]⟩
              · have HL : Hid (ln x y i j = max (ln x y (i + 1) j) (ln x y i (j + 1))) := (by show _ = _; rw [HLN.out, if_neg hxy])
                clear HLN r1 b1
                have hxy' : decide (xi = yj) = false := decide_eq_false hxy
                generalize ln x y (i + 1) j = a1 at *
                generalize ln x y i (j + 1) = a2 at *
                go_wp2_with fail
                go_quiet (fail)
                go_wp2_with fail
                go_region
                go_wp2
                exact ⟨⟨j, (j : Int) - 1, TS', by omega, by go_num, by omega, hgen _ _ (by rw [HL.out]; split <;> omega)⟩, by simp [intOf]⟩
end Go.Proofs.YtjhanfiohfakoaaGreatDoor

/- The longest rising row, by the reference: rises, Longest, walked. -/
set_option maxRecDepth 20000
namespace Go.Proofs.YtjhanfiohfakoaaGreatDoor
open Go.RowKit

theorem rl_drop (l : List Pr) (k : Nat) : (rl l).drop k = rl (l.drop k) := by
  induction l generalizing k with
  | nil => simp [rl]
  | cons p t ih =>
    cases k with
    | zero => rfl
    | succ k => rw [rl, List.drop_succ_cons, List.drop_succ_cons, ih]
theorem rl_at (l : List Pr) (i : Nat) (hi : i < l.length) (hr : i < (rl l).length) : (rl l)[i] = mxl l[i] (l.drop (i + 1)) ((rl l).drop (i + 1)) + 1 := by
  have h := rl_drop l i
  rw [List.drop_eq_getElem_cons hi, rl, List.drop_eq_getElem_cons hr] at h
  have := (List.cons.inj h).1
  rw [this, rl_drop]
theorem rl_pos (l : List Pr) : ∀ n ∈ rl l, 0 < n := by
  induction l with
  | nil => simp [rl]
  | cons p t ih =>
    intro n hn
    rw [rl, List.mem_cons] at hn
    rcases hn with rfl | hn
    · omega
    · exact ih n hn
theorem mxl_le (p : Pr) (t : List Pr) (ns : List Nat) (N : Nat) (h : ∀ n ∈ ns, n ≤ N) : mxl p t ns ≤ N := by
  induction t generalizing ns with
  | nil => simp [mxl]
  | cons a t ih =>
    cases ns with
    | nil => simp [mxl]
    | cons n ns =>
      rw [mxl]
      have h1 := ih ns (fun m hm => h m (List.mem_cons_of_mem _ hm))
      have h2 := h n (List.mem_cons_self ..)
      split <;> omega
theorem rl_le (l : List Pr) : ∀ n ∈ rl l, n ≤ l.length := by
  induction l with
  | nil => simp [rl]
  | cons p t ih =>
    intro n hn
    rw [rl, List.mem_cons] at hn
    rw [List.length_cons]
    rcases hn with rfl | hn
    · have := mxl_le p t (rl t) t.length ih
      omega
    · have := ih n hn
      omega
theorem mxn_le (ns : List Nat) (N : Nat) (h : ∀ n ∈ ns, n ≤ N) : mxn ns ≤ N := by
  induction ns with
  | nil => simp [mxn]
  | cons n ns ih =>
    rw [mxn]
    have h1 := ih (fun m hm => h m (List.mem_cons_of_mem _ hm))
    have h2 := h n (List.mem_cons_self ..)
    omega
theorem pick_zero (last : Option Pr) (l : List Pr) (ns : List Nat) (h : ∀ n ∈ ns, 0 < n) : pick 0 last l ns = [] := by
  induction l generalizing ns last with
  | nil => simp [pick]
  | cons p l ih =>
    cases ns with
    | nil => simp [pick]
    | cons n ns =>
      have := h n (List.mem_cons_self ..)
      rw [pick, if_neg (by omega)]
      exact ih last ns (fun m hm => h m (List.mem_cons_of_mem _ hm))
theorem pick_length (left : Nat) (last : Option Pr) (l : List Pr) (ns : List Nat) : (pick left last l ns).length ≤ l.length := by
  induction l generalizing ns last left with
  | nil => simp [pick]
  | cons p l ih =>
    cases ns with
    | nil => simp [pick]
    | cons n ns =>
      rw [pick]
      split
      · have := ih (left - 1) (some p) ns
        simp only [List.length_cons]
        omega
      · have := ih left last ns
        simp only [List.length_cons]
        omega
theorem pick_step (left : Nat) (last : Option Pr) (l : List Pr) (R : List Nat) (i : Nat) (hi : i < l.length) (hr : i < R.length) : pick left last (l.drop i) (R.drop i) = if R[i] = left ∧ (∀ q, last = some q → ab l[i] q) then l[i] :: pick (left - 1) (some l[i]) (l.drop (i + 1)) (R.drop (i + 1)) else pick left last (l.drop (i + 1)) (R.drop (i + 1)) := by
  rw [List.drop_eq_getElem_cons hi, List.drop_eq_getElem_cons hr, pick]
theorem mxl_step (p : Pr) (l : List Pr) (R : List Nat) (i : Nat) (hi : i < l.length) (hr : i < R.length) : mxl p (l.drop i) (R.drop i) = if ab l[i] p then max R[i] (mxl p (l.drop (i + 1)) (R.drop (i + 1))) else mxl p (l.drop (i + 1)) (R.drop (i + 1)) := by
  rw [List.drop_eq_getElem_cons hi, List.drop_eq_getElem_cons hr, mxl]

theorem rises_f (a b : Pr) (r : Bool) (w : World) (hr : Hid (decide (ab b a) = r)) :
    Calls Tryz.prog 81 #[prV a, prV b] w fun e w' => e = .returned (.bool r) ∧ Below w.heap.size w w' := by
  obtain ⟨ax, ay⟩ := a
  obtain ⟨bx, by'⟩ := b
  unfold prV
  have h := hr.out
  unfold ab at h
  dsimp only at h
  go_enter Tryz.func81, Tryz.ntmps81
  subst h
  clear hr
  by_cases h1 : ax < bx
  · go_wp2
    go_ret
    exact ⟨ret_bool (by simp [h1]), ((Below.refl _ w).alloc (Nat.le_refl _) _).alloc (by simp) _⟩
  · go_wp2
    go_ret
    exact ⟨ret_bool (by simp; omega), ((Below.refl _ w).alloc (Nat.le_refl _) _).alloc (by simp) _⟩

theorem rises_low (a b : Pr) (r : Bool) (W u : World) (hr : Hid (decide (ab b a) = r)) (hL : Low W u) :
    Calls Tryz.prog 81 #[prV a, prV b] u fun e w' => e = .returned (.bool r) ∧ Low W w' := by
  refine (rises_f a b r u hr).mono ?_
  rintro e w' ⟨rfl, h⟩
  exact ⟨rfl, Below.trans hL (h.mono (Below.size hL))⟩
/-- the lengths from k on stand there -/
def Dn (R : List Nat) (k : Nat) (Z : List Int) : Prop := Z.length = R.length ∧ ∀ j (hj : j < R.length), k ≤ j → Z[j]? = some ((R[j] : Nat) : Int)
theorem Dn.set {R : List Nat} {k : Nat} {Z : List Int} (h : Dn R (k + 1) Z) (hk : k < R.length) {m : Int} (hm : m = ((R[k] : Nat) : Int)) : Dn R k (Z.set k m) := by
  refine ⟨by rw [List.length_set]; exact h.1, fun j hj hkj => ?_⟩
  by_cases e : j = k
  · subst e
    rw [List.getElem?_set_self (by rw [h.1]; exact hj), hm]
  · rw [List.getElem?_set_ne (fun q => e q.symm)]
    exact h.2 j hj (by omega)
attribute [local simp] low_drew

set_option maxRecDepth 10000 in
set_option maxHeartbeats 4000000 in
theorem rLongest_own (l : List Pr) (v : Value) (w : World) (hl : HPr w v l) (hll : l.length ≤ 4096) (L : List Pr) (hL : Hid (lng l = L)) :
    Calls Tryz.prog 53 #[v] w fun e w' => ∃ v' B, e = .returned v' ∧ w.heap.size ≤ B ∧ w'.ownsRow B 98 2 v' L.length (prcells L) ∧ Below w.heap.size w w' := by
  obtain ⟨lo, lc, rfl⟩ := Holds.form hl
  obtain ⟨R, hR⟩ : ∃ R, rl l = R := ⟨_, rfl⟩
  have hRl : R.length = l.length := by rw [← hR]; exact rl_length l
  have hLl : L.length ≤ l.length := by rw [← hL.out]; exact pick_length _ _ _ _
  have HR : Hid (R.length = l.length ∧ (∀ n ∈ R, 0 < n ∧ n ≤ l.length) ∧ ∀ i (hi : i < l.length) (hr : i < R.length), R[i] = mxl l[i] (l.drop (i + 1)) (R.drop (i + 1)) + 1) := ⟨hRl, fun n hn => by rw [← hR] at hn; exact ⟨rl_pos l n hn, rl_le l n hn⟩, fun i hi hr => by subst hR; exact rl_at l i hi hr⟩
  have HLR : Hid (pick (mxn R) none l R = L) := (by show _ = _; rw [← hL.out, ← hR]; rfl)
  clear hR hRl hL
  have hmk := run_makeN (T := 35) Tryz.underlying35 infoInt (by decide) (l.length : Int) l.length rfl (by omega)
  have hrow := World.ownsRow_lit (base := w.heap.size) (e := 3) (size := 1) w (madeCells #[.int .i64 0] l.length) l.length (Nat.le_refl _) (by unfold maxLen; omega) (by rw [size_madeCells]; simp)
  rw [madeL] at hrow
  have hst : Ls w w.heap.size l.length (List.replicate l.length 0) (w.alloc (.cells (madeCells #[.int .i64 0] l.length) 3)) := ⟨(Below.refl _ w).alloc (Nat.le_refl _) _, by simpa [icells] using hrow⟩
  go_enter Tryz.func53, Tryz.ntmps53
  go_wp2
  go_loopw [4, 5] (fun mv iv wr => ∃ (k m : Nat) (z : Int) (Z : List Int), k ≤ l.length ∧ m ≤ l.length ∧ mv = .int .i64 m ∧ iv = .int .i64 z ∧ z + 1 = k ∧ Ls w w.heap.size l.length Z wr ∧ Hid (Dn R k Z ∧ mxn (R.drop k) = m)) (fun _ iv _ => (intOf iv + 1).toNat)
  case atStart => exact ⟨l.length, 0, (l.length : Int) - 1, _, Nat.le_refl _, Nat.zero_le _, rfl, by go_num, by omega, hst, ⟨by rw [HR.out.1]; simp, fun j hj h => by have := HR.out.1; omega⟩, by rw [← HR.out.1]; simp [mxn]⟩
  case round =>
    clear hst hrow hmk
    obtain ⟨k, m, z, Z, hk, hm, rfl, rfl, hz, hS, HD⟩ := hrel
    cases k with
    | zero =>
      obtain rfl : z = -1 := by omega
      have HPK : Hid (pick m none l R = L) := (by
        show _ = _
        rw [← HLR.out, ← HD.out.2]
        rfl)
      have HD0 : Hid (Dn R 0 Z) := HD.out.1
      clear hz HD HLR hk
      obtain ⟨W1, rfl⟩ : ∃ W1, W1 = wr := ⟨wr, rfl⟩
      go_wp2
      go_loopw [4, 7, 8] (fun mv ov iv wi => ∃ (i m : Nat) (X : List Pr) (oo : Option Addr) (oc : Nat), i ≤ l.length ∧ m ≤ l.length ∧ mv = .int .i64 m ∧ ov = .slice oo X.length oc ∧ iv = .int .i64 i ∧ Low W1 wi ∧ X.length ≤ L.length ∧ wi.ownsRow W1.heap.size 98 2 (.slice oo X.length oc) X.length (prcells X) ∧ Hid (X ++ pick m X.getLast? (l.drop i) (R.drop i) = L)) (fun _ _ iv _ => l.length - (intOf iv).toNat)
      case atStart => exact ⟨0, m, [], none, 0, Nat.zero_le _, hm, rfl, rfl, rfl, Below.refl _ _, Nat.zero_le _, World.ownsRow_nil _ _ _ _, HPK⟩
      case round =>
        obtain ⟨i, m, X, oo, oc, hi, hm, rfl, rfl, rfl, hLow, hXl, hO, HX⟩ := hrel
        have hfin : (l.length ≤ i ∨ m = 0) → X = L := by
          intro h
          have := HX.out
          rcases h with h | rfl
          · rw [show l.drop i = [] by rw [List.drop_eq_nil_iff]; omega] at this
            simpa [pick] using this
          · rw [pick_zero _ _ _ (fun n hn => (HR.out.2.1 n (List.mem_of_mem_drop hn)).1), List.append_nil] at this
            exact this
        by_cases hil : i < l.length
        · by_cases hm0 : m = 0
          · have e := hfin (.inr hm0)
            subst e
            clear hfin
            have hm1 : decide ((0 : Int) < (m : Int)) = false := decide_eq_false (by omega)
            subst hm0
            go_wp2
            go_ret
            exact ⟨_, _, rfl, hS.low.size, hO, hS.low.trans (Below.mono hLow hS.low.size)⟩
          · obtain ⟨p, hp⟩ : ∃ p, l[i] = p := ⟨_, rfl⟩
            obtain ⟨ri, hri⟩ : ∃ r, R[i]'(by have := HR.out.1; omega) = r := ⟨_, rfl⟩
            have hZi : Z[i]? = some (ri : Int) := by rw [HD0.out.2 i (by have := HR.out.1; omega) (Nat.zero_le _), hri]
            have hrb := (HR.out.2.1 _ (List.getElem_mem (l := R) (n := i) (by have := HR.out.1; omega))).2
            rw [hri] at hrb
            have HXP : Hid (X ++ (if ri = m ∧ (∀ q, X.getLast? = some q → ab p q) then p :: pick (m - 1) (some p) (l.drop (i + 1)) (R.drop (i + 1)) else pick m X.getLast? (l.drop (i + 1)) (R.drop (i + 1))) = L) := (by
              have := HX.out
              rw [pick_step _ _ l R i hil (by have := HR.out.1; omega), hp, hri] at this
              exact this)
            have hBi : Below w.heap.size w wr := hS.low.trans (Below.mono hLow hS.low.size)
            obtain ⟨b, off, rfl, hbl, hc⟩ := HPr.at (HPr.keep hl hBi (Nat.le_refl _)) (by omega)
            obtain ⟨c0, c1⟩ := hc i hil
            rw [hp] at c0 c1
            have y0 := (hS.keep hLow).at hZi
            have i1 : 0 ≤ (i : Int) := by omega
            have i2 : (i : Int) < (l.length : Int) := by omega
            have hm1 : decide ((0 : Int) < (m : Int)) = true := decide_eq_true (by omega)
            have hs0 := Below.size hLow
            clear hc hp hri HX hfin
            by_cases hrm : ri = m
            · subst hrm
              have e1 : ((ri : Int) == (ri : Int)) = true := by simp
              by_cases hXe : X = []
              · subst hXe
                have HX2 : Hid (([] ++ [p]) ++ pick (ri - 1) (some p) (l.drop (i + 1)) (R.drop (i + 1)) = L) := (by
                  show _ = _
                  rw [← HXP.out, if_pos ⟨rfl, by simp⟩]
                  rfl)
                have hXl2 : 1 ≤ L.length := by rw [← HX2.out]; simp
                clear HXP
                go_wp2_with fail
                go_big_quiet (fail)
                have hOd : (wr.drewN nq).ownsRow W1.heap.size 98 2 (.slice oo 0 oc) 0 [] := hO
                have hLd : Low W1 (wr.drewN nq) := Below.dN hLow nq
                have c0' : (wr.drewN nq).cell? ⟨b, off + i * 2, none⟩ = some (.int .i64 p.X) := c0
                have c1' : (wr.drewN nq).cell? ⟨b, off + i * 2 + 1, none⟩ = some (.int .i64 p.Y) := c1
                generalize wr.drewN nq = wd at hOd hLd c0' c1' ⊢
                have hsd := Below.size hLd
                clear c0 c1 y0
                go_wp2_with (at_builtin; refine wpList_append_h _ (by kernel_rfl) (.tmp 92) (.tmp 97) 94 98 (.agg #[.int .i64 0, .int .i64 0]) 2 16 rfl Tryz.underlying94 infoQr rfl (by decide) (by decide) W1.heap.size (.slice oo 0 oc) 0 [] (by kernel_rfl) (hOd.alloc _) (.slice (some ⟨wd.heap.size, 0, none⟩) 1 1) 1 (prcells [p]) (by kernel_rfl) (new_holds wd _ _ 1 1 (by decide)) rfl (prcells_one _) (by omega) (by simp; omega) ?_)
                intro v3 w3 hown3 hgrow3
                have hB3 : Low W1 w3 := (Below.alloc hLd (Below.size hLd) _).grown hgrow3 (by simp; omega) (fun _ hj => owns_ge hOd hj)
                obtain ⟨oo3, oc3, rfl⟩ := (holds_of hown3).form
                clear hgrow3
                go_wp2
                go_roundw
                case rel => exact ⟨i + 1, ri - 1, [p], oo3, oc3, by omega, by omega, by rw [show ((ri - 1 : Nat) : Int) = (ri : Int) - 1 by omega], rfl, by go_num, hB3, by simp; omega, by simpa using hown3, HX2⟩
                case measure => simp [intOf]; omega
              · have hXp : 0 < X.length := List.length_pos_iff.2 hXe
                obtain ⟨N1, hN1⟩ : ∃ N1, X.length = N1 + 1 := ⟨X.length - 1, by omega⟩
                obtain ⟨bo, fo, rfl, hbo, hco⟩ := HPr.at (holds_of hO) hXp
                obtain ⟨q, hq⟩ : ∃ q, X[N1] = q := ⟨_, rfl⟩
                obtain ⟨o0, o1⟩ := hco N1 (by omega)
                rw [hq] at o0 o1
                have hlast : X.getLast? = some q := by rw [List.getLast?_eq_getElem?, hN1, Nat.add_sub_cancel, List.getElem?_eq_getElem (by omega), hq]
                have HXQ : Hid (X ++ (if ab p q then p :: pick (ri - 1) (some p) (l.drop (i + 1)) (R.drop (i + 1)) else pick ri X.getLast? (l.drop (i + 1)) (R.drop (i + 1))) = L) := (by
                  show _ = _
                  rw [← HXP.out]
                  congr 1
                  by_cases hpq : ab p q
                  · rw [if_pos hpq, if_pos ⟨rfl, fun q' h => by rw [hlast] at h; cases h; exact hpq⟩]
                  · rw [if_neg hpq, if_neg (fun h => hpq (h.2 q hlast))])
                have HN1 : Hid (X.length = N1 + 1) := hN1
                rw [hN1] at hO hXl ⊢
                have hcs : ∀ u : World, Low wr u → u.cell? ⟨b, off + i * 2, none⟩ = some (.int .i64 p.X) ∧ u.cell? ⟨b, off + i * 2 + 1, none⟩ = some (.int .i64 p.Y) ∧ u.cell? ⟨bo, fo + N1 * 2, none⟩ = some (.int .i64 q.X) ∧ u.cell? ⟨bo, fo + N1 * 2 + 1, none⟩ = some (.int .i64 q.Y) ∧ u.cell? ⟨w.heap.size, i, none⟩ = some (.int .i64 ri) := fun u hu => ⟨cell_keep hu hbl c0, cell_keep hu hbl c1, cell_keep hu hbo o0, cell_keep hu hbo o1, cell_keep hu (by obtain ⟨_, cur, hcur⟩ := own_at (hS.keep hLow).own; exact (Array.getElem?_eq_some_iff.1 hcur).1) y0⟩
                have n1 : 0 ≤ (N1 : Int) := by omega
                have n2 : (N1 : Int) < (N1 : Int) + 1 := by omega
                have n3 : ((N1 : Int) + 1 == 0) = false := by simp; omega
                have n4 : IntKind.i64.wrap ((N1 : Int) + 1 - 1) = (N1 : Int) := by rw [IntKind.wrap_i64]; omega
                have n5 : IntKind.i64.wrap (N1 : Int) = (N1 : Int) := by rw [IntKind.wrap_i64]; omega
                have n6 : (N1 : Int) + 1 - 1 = (N1 : Int) := by omega
                have n7 : (N1 : Int) < ((N1 + 1 : Nat) : Int) := by omega
                have hLw : Low wr wr := Below.refl _ _
                clear HXP hXe hXp hN1 hco hq hlast
                by_cases hab : ab p q
                · have HAB : Hid (decide (ab p q) = true) := decide_eq_true hab
                  have HX2 : Hid ((X ++ [p]) ++ pick (ri - 1) (some p) (l.drop (i + 1)) (R.drop (i + 1)) = L) := (by
                    show _ = _
                    rw [← HXQ.out, if_pos hab]
                    simp)
                  have hXl2 : N1 + 1 + 1 ≤ L.length := by rw [← HX2.out, ← HN1.out]; simp
                  clear HXQ hab
                  go_wp2_with fail
                  go_region_held3 (fun w' => w'.cell? ⟨b, off + i * 2, none⟩ = some (.int .i64 p.X) ∧ w'.cell? ⟨b, off + i * 2 + 1, none⟩ = some (.int .i64 p.Y) ∧ w'.cell? ⟨bo, fo + N1 * 2, none⟩ = some (.int .i64 q.X) ∧ w'.cell? ⟨bo, fo + N1 * 2 + 1, none⟩ = some (.int .i64 q.Y) ∧ w'.cell? ⟨w.heap.size, i, none⟩ = some (.int .i64 ri) ∧ Low wr w') (go_keep)
                    (first | (go_at_call 81; refine (rises_low q p true wr _ HAB (by first | assumption | (simp [*]; done))).mono ?_; rintro e wd ⟨rfl, hlow⟩; obtain ⟨g0, g1, g2, g3, g4⟩ := hcs wd hlow))
                  have hOd : wd.ownsRow W1.heap.size 98 2 (.slice (some ⟨bo, fo, none⟩) (N1 + 1) oc) (N1 + 1) (prcells X) := owns_keep hO hlow
                  have hLd : Low W1 wd := Below.trans hLow (Below.mono hlow (Below.size hLow))
                  have hsd := Below.size hLd
                  clear c0 c1 o0 o1 y0 hcs g2 g3 g4 n1 n2 n3 n4 n5 n6 n7
                  go_wp2_with (at_builtin; refine wpList_append_h _ (by kernel_rfl) (.tmp 92) (.tmp 97) 94 98 (.agg #[.int .i64 0, .int .i64 0]) 2 16 rfl Tryz.underlying94 infoQr rfl (by decide) (by decide) W1.heap.size (.slice (some ⟨bo, fo, none⟩) (N1 + 1) oc) (N1 + 1) (prcells X) (by kernel_rfl) (hOd.alloc _) (.slice (some ⟨wd.heap.size, 0, none⟩) 1 1) 1 (prcells [p]) (by kernel_rfl) (new_holds wd _ _ 1 1 (by decide)) rfl (prcells_one _) (by omega) (by simp; omega) ?_)
                  intro v3 w3 hown3 hgrow3
                  have hB3 : Low W1 w3 := (Below.alloc hLd (Below.size hLd) _).grown hgrow3 (by simp; omega) (fun _ hj => owns_ge hOd hj)
                  rw [← prcells_append] at hown3
                  obtain ⟨oo3, oc3, rfl⟩ := (holds_of hown3).form
                  clear hgrow3
                  go_wp2
                  go_roundw
                  case rel => exact ⟨i + 1, ri - 1, X ++ [p], oo3, oc3, by omega, by omega, by rw [show ((ri - 1 : Nat) : Int) = (ri : Int) - 1 by omega], by rw [List.length_append, HN1.out]; rfl, by go_num, hB3, by rw [List.length_append, HN1.out]; simp; omega, by rw [List.length_append, HN1.out]; exact hown3, by rw [List.getLast?_concat]; exact HX2⟩
                  case measure => simp [intOf]; omega
                · have HAB : Hid (decide (ab p q) = false) := decide_eq_false hab
                  have HX2 : Hid (X ++ pick ri X.getLast? (l.drop (i + 1)) (R.drop (i + 1)) = L) := (by
                    show _ = _
                    rw [← HXQ.out, if_neg hab])
                  clear HXQ hab
                  go_wp2_with fail
                  go_region_held3 (fun w' => w'.cell? ⟨b, off + i * 2, none⟩ = some (.int .i64 p.X) ∧ w'.cell? ⟨b, off + i * 2 + 1, none⟩ = some (.int .i64 p.Y) ∧ w'.cell? ⟨bo, fo + N1 * 2, none⟩ = some (.int .i64 q.X) ∧ w'.cell? ⟨bo, fo + N1 * 2 + 1, none⟩ = some (.int .i64 q.Y) ∧ w'.cell? ⟨w.heap.size, i, none⟩ = some (.int .i64 ri) ∧ Low wr w') (go_keep)
                    (first | (go_at_call 81; refine (rises_low q p false wr _ HAB (by first | assumption | (simp [*]; done))).mono ?_; rintro e wd ⟨rfl, hlow⟩; obtain ⟨g0, g1, g2, g3, g4⟩ := hcs wd hlow))
                  have hOd : wd.ownsRow W1.heap.size 98 2 (.slice (some ⟨bo, fo, none⟩) (N1 + 1) oc) (N1 + 1) (prcells X) := owns_keep hO hlow
                  have hLd : Low W1 wd := Below.trans hLow (Below.mono hlow (Below.size hLow))
                  clear c0 c1 o0 o1 y0 hcs g0 g1 g2 g3 g4
                  go_wp2
                  go_roundw
                  case rel => exact ⟨i + 1, ri, X, _, _, by omega, hm, rfl, by rw [HN1.out], by go_num, hLd, by rw [HN1.out]; exact hXl, by rw [HN1.out]; exact hOd, HX2⟩
                  case measure => simp [intOf]; omega
            · have e1 : ((ri : Int) == (m : Int)) = false := by simp; omega
              have HX2 : Hid (X ++ pick m X.getLast? (l.drop (i + 1)) (R.drop (i + 1)) = L) := (by
                show _ = _
                rw [← HXP.out, if_neg (fun h => hrm h.1)])
              clear HXP
              go_wp2_with fail
              go_big_quiet (fail)
              go_wp2
              go_roundw
              case rel => exact ⟨i + 1, m, X, oo, oc, by omega, hm, rfl, rfl, by go_num, Below.dN hLow _, hXl, hO, HX2⟩
              case measure => simp [intOf]; omega
        · have e := hfin (.inl (by omega))
          subst e
          clear hfin
          go_wp2
          go_ret
          exact ⟨_, _, rfl, hS.low.size, hO, hS.low.trans (Below.mono hLow hS.low.size)⟩
    | succ i =>
      obtain rfl : z = (i : Int) := by omega
      clear hz
      have i1 : 0 ≤ (i : Int) := by omega
      have i2 : (i : Int) < (l.length : Int) := by omega
      have f0 := hS.own.frozenAt i
      have y0 := hS.own.cellAt i (by omega)
      rw [List.getElem?_eq_getElem (by rw [icells_length, hS.len]; omega)] at y0
      obtain ⟨z0, hz0⟩ : ∃ z, (icells Z)[i]'(by rw [icells_length, hS.len]; omega) = z := ⟨_, rfl⟩
      rw [hz0] at y0
      clear hz0
      obtain ⟨p, hp⟩ : ∃ p, l[i]'(by omega) = p := ⟨_, rfl⟩
      obtain ⟨ri, hri⟩ : ∃ r, R[i]'(by have := HR.out.1; omega) = r := ⟨_, rfl⟩
      have HRI : Hid (ri = mxl p (l.drop (i + 1)) (R.drop (i + 1)) + 1 ∧ ri ≤ l.length ∧ mxn (R.drop i) = max ri m) := (by
        have h1 := HR.out.2.2 i (by omega) (by have := HR.out.1; omega)
        rw [hri, hp] at h1
        refine ⟨h1, ?_, ?_⟩
        · rw [← hri]; exact (HR.out.2.1 _ (List.getElem_mem _)).2
        · rw [List.drop_eq_getElem_cons (show i < R.length by have := HR.out.1; omega), mxn, hri, HD.out.2])
      have HDI : Hid (∀ Z' : List Int, Dn R (i + 1) Z' → Dn R i (Z'.set i (ri : Int))) := (fun Z' h => h.set (by have := HR.out.1; omega) (by rw [hri]))
      have hpx : ∀ u : World, Below w.heap.size w u → ∃ b off, lo = some ⟨b, off, none⟩ ∧ b < u.heap.size ∧ u.cell? ⟨b, off + i * 2, none⟩ = some (.int .i64 p.X) ∧ u.cell? ⟨b, off + i * 2 + 1, none⟩ = some (.int .i64 p.Y) := fun u hu => by
        obtain ⟨b, off, e, hlt, hc⟩ := HPr.at (HPr.keep hl hu (Nat.le_refl _)) (by omega)
        have := hc i (by omega)
        rw [hp] at this
        exact ⟨b, off, e, hlt, this⟩
      clear hp hri
      have hS1 := hS.set i 1
      have hDs : Hid (Dn R (i + 1) (Z.set i 1)) := ⟨by rw [List.length_set]; exact HD.out.1.1, fun j hj hji => by rw [List.getElem?_set_ne (by omega)]; exact HD.out.1.2 j hj hji⟩
      go_wp2
      go_loopw [6] (fun kv wi => ∃ (k m' : Nat) (Z' : List Int), i < k ∧ k ≤ l.length ∧ 1 ≤ m' ∧ m' ≤ l.length + 1 ∧ kv = .int .i64 k ∧ Ls w w.heap.size l.length Z' wi ∧ Z'[i]? = some (m' : Int) ∧ Hid (Dn R (i + 1) Z' ∧ max m' (mxl p (l.drop k) (R.drop k) + 1) = ri)) (fun kv _ => l.length - (intOf kv).toNat)
      case atStart => exact ⟨i + 1, 1, Z.set i 1, by omega, by omega, Nat.le_refl _, by omega, by go_num, hS1, by rw [List.getElem?_set_self (by rw [hS.len]; omega)]; rfl, hDs.out, by rw [HRI.out.1]; omega⟩
      case round =>
        clear hS hS1 hDs f0 y0
        obtain ⟨k, m', Z', hik, hkl, hm1, hm2, rfl, hS, hZi, HM⟩ := hrel
        by_cases hkk : k < l.length
        · obtain ⟨q, hq⟩ : ∃ q, l[k] = q := ⟨_, rfl⟩
          obtain ⟨rk, hrk⟩ : ∃ r, R[k]'(by have := HR.out.1; omega) = r := ⟨_, rfl⟩
          have hrkb := (HR.out.2.1 _ (List.getElem_mem (l := R) (n := k) (by have := HR.out.1; omega))).2
          rw [hrk] at hrkb
          have hZk : Z'[k]? = some (rk : Int) := by
            rw [HM.out.1.2 k (by have := HR.out.1; omega) (by omega), hrk]
          have HM2 : Hid (max m' ((if ab q p then max rk (mxl p (l.drop (k + 1)) (R.drop (k + 1))) else mxl p (l.drop (k + 1)) (R.drop (k + 1))) + 1) = ri) := (by
            have := HM.out.2
            rw [mxl_step p l R k hkk (by have := HR.out.1; omega), hq, hrk] at this
            exact this)
          have HD1 : Hid (Dn R (i + 1) Z') := HM.out.1
          obtain ⟨b, off, rfl, hbl, c0, c1⟩ := hpx wr hS.low
          obtain ⟨b', off', e', _, hc⟩ := HPr.at (HPr.keep hl hS.low (Nat.le_refl _)) (by omega)
          cases e'
          obtain ⟨d0, d1⟩ := hc k hkk
          rw [hq] at d0 d1
          clear hc hq hrk HM
          have k1 : 0 ≤ (k : Int) := by omega
          have k2 : (k : Int) < (l.length : Int) := by omega
          have y0 := hS.at hZi
          have y1 := hS.at hZk
          have f0 := hS.own.frozenAt i
          have hLow : Low wr wr := Below.refl _ _
          have hcs : ∀ u : World, Low wr u → u.cell? ⟨b, off + i * 2, none⟩ = some (.int .i64 p.X) ∧ u.cell? ⟨b, off + i * 2 + 1, none⟩ = some (.int .i64 p.Y) ∧ u.cell? ⟨b, off + k * 2, none⟩ = some (.int .i64 q.X) ∧ u.cell? ⟨b, off + k * 2 + 1, none⟩ = some (.int .i64 q.Y) := fun u hu => ⟨cell_keep hu hbl c0, cell_keep hu hbl c1, cell_keep hu hbl d0, cell_keep hu hbl d1⟩
          by_cases hab : ab q p
          · have HAB : Hid (decide (ab q p) = true) := decide_eq_true hab
            have HM3 : Hid (max (max m' (rk + 1)) (mxl p (l.drop (k + 1)) (R.drop (k + 1)) + 1) = ri) := (by
              show _ = _
              have := HM2.out
              rw [if_pos hab] at this
              omega)
            clear HM2 hab
            go_wp2_with fail
            go_region_held3 (fun w' => w'.cell? ⟨b, off + i * 2, none⟩ = some (.int .i64 p.X) ∧ w'.cell? ⟨b, off + i * 2 + 1, none⟩ = some (.int .i64 p.Y) ∧ w'.cell? ⟨b, off + k * 2, none⟩ = some (.int .i64 q.X) ∧ w'.cell? ⟨b, off + k * 2 + 1, none⟩ = some (.int .i64 q.Y) ∧ Low wr w') (go_keep)
              (first | (go_at_call 81; refine (rises_low p q true wr _ HAB (by first | assumption | (simp [*]; done))).mono ?_; rintro e w' ⟨rfl, hlow⟩; obtain ⟨g0, g1, g2, g3⟩ := hcs w' hlow))
            have hS1 := hS.keep hlow
            have y0' := hS1.at hZi
            have y1' := hS1.at hZk
            have f0' := hS1.own.frozenAt i
            clear y0 y1 f0 c0 c1 d0 d1 hcs g0 g1 g2 g3
            go_wp2_with fail
            go_region
            go_wp2
            have hval : (if (m' : Int) < (rk : Int) + 1 then (rk : Int) + 1 else (m' : Int)) = ((max m' (rk + 1) : Nat) : Int) := by split <;> omega
            exact ⟨⟨k + 1, max m' (rk + 1), Z'.set i ((max m' (rk + 1) : Nat) : Int), by omega, by omega, by omega, by omega, by go_num, by rw [hval]; exact (hS1.set i _).drewN 1, by rw [List.getElem?_set_self (by rw [hS.len]; omega)], ⟨by rw [List.length_set]; exact HD1.out.1, fun j hj hji => by rw [List.getElem?_set_ne (by omega)]; exact HD1.out.2 j hj hji⟩, HM3.out⟩, by simp [intOf]; omega⟩
          · have HAB : Hid (decide (ab q p) = false) := decide_eq_false hab
            have HM3 : Hid (max m' (mxl p (l.drop (k + 1)) (R.drop (k + 1)) + 1) = ri) := (by
              show _ = _
              have := HM2.out
              rw [if_neg hab] at this
              exact this)
            clear HM2 hab
            go_wp2_with fail
            go_region_held3 (fun w' => w'.cell? ⟨b, off + i * 2, none⟩ = some (.int .i64 p.X) ∧ w'.cell? ⟨b, off + i * 2 + 1, none⟩ = some (.int .i64 p.Y) ∧ w'.cell? ⟨b, off + k * 2, none⟩ = some (.int .i64 q.X) ∧ w'.cell? ⟨b, off + k * 2 + 1, none⟩ = some (.int .i64 q.Y) ∧ Low wr w') (go_keep)
              (first | (go_at_call 81; refine (rises_low p q false wr _ HAB (by first | assumption | (simp [*]; done))).mono ?_; rintro e w' ⟨rfl, hlow⟩; obtain ⟨g0, g1, g2, g3⟩ := hcs w' hlow))
            have hS1 := hS.keep hlow
            clear y0 y1 f0 c0 c1 d0 d1 hcs g0 g1 g2 g3
            go_wp2
            go_roundw
            case rel => exact ⟨k + 1, m', Z', by omega, by omega, hm1, hm2, by go_num, hS1, hZi, HD1.out, HM3.out⟩
            case measure => simp [intOf]; omega
        · obtain rfl : k = l.length := by omega
          have hmr : m' = ri := by
            have := HM.out.2
            simp [mxl] at this
            omega
          subst hmr
          have hS' : Ls w w.heap.size l.length (Z'.set i (m' : Int)) wr := by
            have e : Z'.set i (m' : Int) = Z' := by
              obtain ⟨h1, h2⟩ := List.getElem?_eq_some_iff.1 hZi
              rw [← h2, List.set_getElem_self]
            rw [e]
            exact hS
          have y0 := hS.at hZi
          have hmb : max m' m ≤ l.length := by have := HRI.out.2.1; omega
          go_wp2
          go_roundw
          case rel => exact ⟨i, max m' m, (i : Int) - 1, _, by omega, hmb, by congr 1; split <;> omega, by go_num, by omega, hS', HDI.out Z' HM.out.1, HRI.out.2.2⟩
          case measure => simp [intOf]
theorem rLongest_f (l : List Pr) (v : Value) (w : World) (hl : HPr w v l) (hll : l.length ≤ 4096) (L : List Pr) (hL : Hid (lng l = L)) :
    Calls Tryz.prog 53 #[v] w fun e w' => ∃ v', e = .returned v' ∧ HPr w' v' L ∧ Below w.heap.size w w' := by
  refine (rLongest_own l v w hl hll L hL).mono ?_
  rintro e w' ⟨v', B, rfl, _, ho, hb⟩
  exact ⟨v', rfl, holds_of ho, hb⟩
end Go.Proofs.YtjhanfiohfakoaaGreatDoor

/- A region that draws its order, in a round: seven operations that read and a call, in whatever order, then the rest as the text has it. -/
set_option maxRecDepth 20000
namespace Go.Proofs.YtjhanfiohfakoaaGreatDoor
namespace R8
open Go.RowKit Go.Shelf

abbrev B8 := Fin 8 → Bool
def lst (b : B8) : Array Bool := #[b 0, b 1, b 2, b 3, b 4, b 5, b 6, b 7, false, false]
def upd (b : B8) (i : Fin 8) : B8 := fun j => if j = i then true else b j
def one (c : Bool) : Nat := if c then 1 else 0
def cnt (b : B8) : Nat := one (b 0) + one (b 1) + one (b 2) + one (b 3) + one (b 4) + one (b 5) + one (b 6) + one (b 7)
theorem lst_upd (b : B8) (i : Fin 8) : (lst b).setIfInBounds i.1 true = lst (upd b i) := by
  rcases i with ⟨i, hi⟩
  rcases (by omega : i = 0 ∨ i = 1 ∨ i = 2 ∨ i = 3 ∨ i = 4 ∨ i = 5 ∨ i = 6 ∨ i = 7) with rfl | rfl | rfl | rfl | rfl | rfl | rfl | rfl <;> simp [lst, upd]
theorem cnt_upd (b : B8) (i : Fin 8) (h : b i = false) : cnt (upd b i) = cnt b + 1 := by
  rcases i with ⟨i, hi⟩
  rcases (by omega : i = 0 ∨ i = 1 ∨ i = 2 ∨ i = 3 ∨ i = 4 ∨ i = 5 ∨ i = 6 ∨ i = 7) with rfl | rfl | rfl | rfl | rfl | rfl | rfl | rfl <;> (simp only [Fin.isValue, Fin.mk_zero, Fin.mk_one, Fin.reduceFinMk] at h; simp [cnt, upd, one, h]; try omega)
theorem one_le (c : Bool) : one c ≤ 1 := by cases c <;> simp [one]
theorem cnt_le (b : B8) : cnt b ≤ 8 := by
  have := fun i => one_le (b i)
  have h0 := this 0; have h1 := this 1; have h2 := this 2; have h3 := this 3; have h4 := this 4; have h5 := this 5; have h6 := this 6; have h7 := this 7
  unfold cnt
  omega
/-- which must lie ahead of one -/
def deps : Fin 8 → List (Fin 8)
  | 4 => [2, 3]
  | 5 => [4]
  | 7 => [5, 6]
  | _ => []
def closedB (b : B8) : Bool := (List.finRange 8).all fun i => !(b i) || (deps i).all b
theorem closed_upd (b : B8) (i : Fin 8) (h : closedB b = true) (hd : ∀ j ∈ deps i, b j = true) : closedB (upd b i) = true := by
  simp only [closedB, List.all_eq_true, List.mem_finRange, Bool.or_eq_true, Bool.not_eq_true', forall_const] at h ⊢
  intro k
  have hup : ∀ j, b j = true → upd b i j = true := fun j hj => by unfold upd; split <;> simp_all
  by_cases hk : k = i
  · exact .inr fun j hj => hup j (hd j (hk ▸ hj))
  · rcases h k with h1 | h1
    · left
      unfold upd
      rw [if_neg hk]
      exact h1
    · exact .inr fun j hj => hup j (h1 j hj)
theorem closed_at (b : B8) (h : closedB b = true) (i : Fin 8) (hi : b i = true) : ∀ j ∈ deps i, b j = true := by
  simp only [closedB, List.all_eq_true, List.mem_finRange, Bool.or_eq_true, Bool.not_eq_true', forall_const] at h
  rcases h i with h1 | h1
  · rw [hi] at h1; cases h1
  · exact h1
/-- behind the call only the first two may still come -/
theorem closed_call (b : B8) (h : closedB b = true) (h7 : b 7 = true) : b 2 = true ∧ b 3 = true ∧ b 4 = true ∧ b 5 = true ∧ b 6 = true := by
  have h5 := closed_at b h 7 h7 5 (by simp [deps])
  have h6 := closed_at b h 7 h7 6 (by simp [deps])
  have h4 := closed_at b h 5 h5 4 (by simp [deps])
  exact ⟨closed_at b h 4 h4 2 (by simp [deps]), closed_at b h 4 h4 3 (by simp [deps]), h4, h5, h6⟩
def chkReady (ops : Array Oper) (b : B8) : Bool :=
  !(closedB b) || !(Region.ready .any ops (lst b)).isEmpty && (Region.ready .any ops (lst b)).all fun i =>
    if h : i < 8 then !(b ⟨i, h⟩) && (deps ⟨i, h⟩).all b else i == 8 && (List.finRange 8).all b

theorem any8 {F : Fence} {n : Nat} {P : Program} {ops : Array Oper} {Q : Exit → Act → World → Prop} {w : World} (act : B8 → Value → Act) (Post : Value → World → Prop)
    (hr : ∀ b, chkReady ops b = true)
    (hstep : ∀ (b : B8) (i : Fin 8), i ≠ 7 → b i = false → (∀ j ∈ deps i, b j = true) → closedB b = true → ∀ v u, ((b 7 = false ∧ u = w) ∨ (b 7 = true ∧ Post v u)) → ∀ K : Act → World → Prop, K (act (upd b i) v) u → wpOpIn F n P ops Q i.1 K (act b v) u)
    (hcall : ∀ (b : B8) v, b 7 = false → b 5 = true → b 6 = true → ∀ K : Act → World → Prop, (∀ v' u, Post v' u → K (act (upd b 7) v') u) → wpOpIn F n P ops Q 7 K (act b v) w)
    (hfin : ∀ v u, Post v u → wpOpIn F n P ops Q 8 (wpAnyIn F n P .any ops Q 1 #[true, true, true, true, true, true, true, true, true, false]) (act (fun _ => true) v) u) (v0 : Value) :
    wpAnyIn F n P .any ops Q 10 (lst fun _ => false) (act (fun _ => false) v0) w := by
  have main : ∀ (fuel : Nat) (b : B8) (v : Value) (u : World), closedB b = true → fuel + cnt b = 10 → ((b 7 = false ∧ u = w) ∨ (b 7 = true ∧ Post v u)) → wpAnyIn F n P .any ops Q fuel (lst b) (act b v) u := by
    intro fuel
    induction fuel with
    | zero => intro b _ _ _ h; have := cnt_le b; omega
    | succ f ih =>
      intro b v u hcl h hst
      have hb := hr b
      unfold chkReady at hb
      rw [hcl] at hb
      simp only [Bool.not_true, Bool.false_or] at hb
      simp only [Bool.and_eq_true, List.all_eq_true] at hb
      refine ⟨fun h0 => ?_, fun i hi => ?_⟩
      · rw [h0] at hb
        simp at hb
      · have h1 := hb.2 i hi
        split at h1
        · rename_i hlt
          simp only [Bool.and_eq_true, Bool.not_eq_true', List.all_eq_true] at h1
          have e := lst_upd b ⟨i, hlt⟩
          dsimp only at e
          by_cases h7 : i = 7
          · subst h7
            rcases hst with ⟨q1, rfl⟩ | ⟨q1, _⟩
            · refine hcall b v q1 (h1.2 5 (by simp [deps])) (h1.2 6 (by simp [deps])) _ (fun v' u' hp => ?_)
              rw [e]
              exact ih _ v' u' (closed_upd b 7 hcl h1.2) (by have := cnt_upd b ⟨7, hlt⟩ q1; omega) (.inr ⟨by simp [upd], hp⟩)
            · have := h1.1
              rw [show (⟨7, hlt⟩ : Fin 8) = 7 from rfl, q1] at this
              cases this
          · refine hstep b ⟨i, hlt⟩ (fun q => h7 (congrArg Fin.val q)) h1.1 h1.2 hcl v u hst _ ?_
            rw [e]
            refine ih _ v u (closed_upd b ⟨i, hlt⟩ hcl h1.2) (by rw [cnt_upd b ⟨i, hlt⟩ h1.1]; omega) ?_
            have hne : (7 : Fin 8) ≠ ⟨i, hlt⟩ := fun q => h7 (congrArg Fin.val q).symm
            have hu : upd b ⟨i, hlt⟩ 7 = b 7 := by unfold upd; rw [if_neg hne]
            rw [hu]
            exact hst
        · simp only [Bool.and_eq_true, beq_iff_eq, List.all_eq_true, List.mem_finRange, forall_const] at h1
          obtain ⟨rfl, hall⟩ := h1
          obtain rfl : b = fun _ => true := funext hall
          obtain rfl : f = 1 := by
            have : cnt (fun _ => true) = 8 := rfl
            omega
          rcases hst with ⟨q1, _⟩ | ⟨_, hp⟩
          · cases q1
          · exact hfin v u hp
  exact main 10 _ v0 w rfl rfl (.inl ⟨rfl, rfl⟩)
/-- a slot that an operation has written, or not yet -/
def pk (c : Bool) (v : Value) : Value := cond c v undef
theorem pk_true {c : Bool} (h : c = true) (v : Value) : pk c v = v := by rw [h]; rfl
theorem wpOpIn_yield {F : Fence} {n : Nat} {P : Program} {ops : Array Oper} {Q : Exit → Act → World → Prop} {i : Nat} {o : Oper} {K : Act → World → Prop} {a : Act} {w : World} {v : Value} (ho : ops[i]? = some o) (hg : o.guard = none) (hnd : ∀ c, o.op ≠ .defer c)
    (hab : o.about P w a.eval = none) (hrun : (execOp a.eval o).run P w = .ok (.value v) w) (hK : K (a.put o.dst v) w) : wpOpIn F n P ops Q i K a w := by
  unfold wpOpIn
  simp only [ho]
  have hw : Region.wanted o (yielded ops a.tmps) = true := by simp [Region.wanted, hg]
  rw [if_pos hw]
  refine ⟨fun f hf => (by rw [hab] at hf; cases hf), ?_⟩
  rw [Oper.semAt_plain F _ _ hnd, hrun]
  exact hK
def mk8 (b0 b1 b2 b3 b4 b5 b6 b7 : Bool) : B8 := fun i => match i with
  | 0 => b0 | 1 => b1 | 2 => b2 | 3 => b3 | 4 => b4 | 5 => b5 | 6 => b6 | 7 => b7
theorem mk8_eta (b : B8) : b = mk8 (b 0) (b 1) (b 2) (b 3) (b 4) (b 5) (b 6) (b 7) := by
  funext ⟨i, hi⟩
  rcases (by omega : i = 0 ∨ i = 1 ∨ i = 2 ∨ i = 3 ∨ i = 4 ∨ i = 5 ∨ i = 6 ∨ i = 7) with rfl | rfl | rfl | rfl | rfl | rfl | rfl | rfl <;> rfl
theorem chk_all {ops : Array Oper} (h : ∀ b0 b1 b2 b3 b4 b5 b6 b7 : Bool, chkReady ops (mk8 b0 b1 b2 b3 b4 b5 b6 b7) = true) (b : B8) : chkReady ops b = true := by
  rw [mk8_eta b]
  exact h _ _ _ _ _ _ _ _
end R8
end Go.Proofs.YtjhanfiohfakoaaGreatDoor
