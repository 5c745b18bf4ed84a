/-
  Laws for the plain walk: append onto an owned row of elements of whatever width, as a step of the walk and of a region that draws; Same of numbers, of changes.
-/
import Derived.Test.YtppdcjjkkckokaaEdKeep
import Derived.Deep.RegionHeld3
namespace Go.Proofs.Ytppdcjjkkckokaa
open Go.RowKit

theorem run_append_h (w : World) (T E ty : TypeId) (z : Value) (size bytes : Nat) (hT : Try.prog.underlying T = some (.slice E)) (hinfo : (Try.prog.info? E).map (fun i => (i.zero, i.size, i.bytes)) = some (some z, size, bytes)) (hz1 : z.cells.size = size) (hsz : 0 < size) (hby : bytes ≤ 32)
    (base : Nat) (v : Value) (k : Nat) (xs : List Value) (hown : w.ownsRow base E size v k xs) (vx : Value) (m : Nat) (news : List Value) (hh : Holds w vx m news) (hl : news.length = m * size)
    (h1 : ∀ u ∈ news, u.oneCell' = true) (hk : k + m ≤ 4398046511104) (hbase : base ≤ w.heap.size) :
    ∃ v' w', (Builtin.append_ #[T, T] ty #[v, vx]).run Try.prog w = .ok v' w' ∧ w'.ownsRow base E size v' (k + m) (xs ++ news) ∧ w.grownBy w' v.ownBlock ∧ (v'.ownBlock = v.ownBlock ∨ v'.ownBlock = some w.heap.size) := by
  obtain ⟨i0, hi0, hz0, hzs, hz2⟩ := info_parts hinfo
  rcases hh with ⟨rfl, rfl, rfl⟩ | ⟨ad, c, rfl, _, hc⟩
  · exact ⟨v, w, run_append_owned_none (P := Try.prog) (w := w) base T ty E i0 size hT hi0 v k xs hown, by simpa using hown, World.grownBy.refl _ _, .inl rfl⟩
  · obtain ⟨v', w', hr, h2, h3, _, h5⟩ := run_append_own_at (P := Try.prog) w base T ty E i0 z size bytes hT hi0 hz0 hzs hz2 hz1 hsz v k xs hown ad m c news hl hc h1 (by unfold maxLen; omega) (by
      have : (k + m) * bytes ≤ (k + m) * 32 := Nat.mul_le_mul_left _ hby
      omega) hbase
    exact ⟨v', w', hr, h2, h3, h5⟩

theorem wpList_append_h {ops : Array Oper} {rest : List Oper} {o : Oper} {a : Act} {Q : Exit → Act → World → Prop} (w : World) (hw : Region.wanted o (yielded ops a.tmps) = true) (s x : Operand) (T E : TypeId) (z : Value) (size bytes : Nat)
    (ho : o.op = .call { callee := .builtin .append, args := #[s, x], argTypes := #[T, T] }) (hT : Try.prog.underlying T = some (.slice E)) (hinfo : (Try.prog.info? E).map (fun i => (i.zero, i.size, i.bytes)) = some (some z, size, bytes)) (hz1 : z.cells.size = size) (hsz : 0 < size) (hby : bytes ≤ 32)
    (base : Nat) (v : Value) (k : Nat) (xs : List Value) (hs : a.eval s = v) (hown : w.ownsRow base E size v k xs) (vx : Value) (m : Nat) (news : List Value) (hx : a.eval x = vx) (hh : Holds w vx m news) (hl : news.length = m * size)
    (h1 : ∀ u ∈ news, u.oneCell' = true) (hk : k + m ≤ 4398046511104) (hbase : base ≤ w.heap.size)
    (h : ∀ v' w', w'.ownsRow base E size v' (k + m) (xs ++ news) → w.grownBy w' v.ownBlock → wpList Try.prog ops Q rest (a.put o.dst v') w') : wpList Try.prog ops Q (o :: rest) a w := by
  refine wpList_step fun K hK => ?_
  rw [if_pos hw]
  obtain ⟨v', w', hr, h2, h3, _⟩ := run_append_h w T E o.type z size bytes hT hinfo hz1 hsz hby base v k xs hown vx m news hh hl h1 hk hbase
  unfold Oper.wp
  simp [execOp, ho, resolve, invoke, builtin, hs, hx, hr, Result.andThen]
  exact hK _ _ (h v' w' h2 h3)

theorem step_append_h {ops : Array Oper} {o : Oper} {a : Act} {K : Act → World → Prop} {Q : Exit → Act → World → Prop} {X : Prop} (w : World) (hgd : o.guard = none) (s x : Operand) (T E : TypeId) (z : Value) (size bytes : Nat)
    (ho : o.op = .call { callee := .builtin .append, args := #[s, x], argTypes := #[T, T] }) (hT : Try.prog.underlying T = some (.slice E)) (hinfo : (Try.prog.info? E).map (fun i => (i.zero, i.size, i.bytes)) = some (some z, size, bytes)) (hz1 : z.cells.size = size) (hsz : 0 < size) (hby : bytes ≤ 32)
    (base : Nat) (v : Value) (k : Nat) (xs : List Value) (hs : a.eval s = v) (hown : w.ownsRow base E size v k xs) (vx : Value) (m : Nat) (news : List Value) (hx : a.eval x = vx) (hh : Holds w vx m news) (hl : news.length = m * size)
    (h1 : ∀ u ∈ news, u.oneCell' = true) (hk : k + m ≤ 4398046511104) (hbase : base ≤ w.heap.size)
    (h : ∀ v' w', w'.ownsRow base E size v' (k + m) (xs ++ news) → w.grownBy w' v.ownBlock → K (a.put o.dst v') w') :
    if Region.wanted o (yielded ops a.tmps) = true then Oper.wp Try.prog o a w K Q else X := by
  have hw : Region.wanted o (yielded ops a.tmps) = true := by simp [Region.wanted, hgd]
  rw [if_pos hw]
  obtain ⟨v', w', hr, h2, h3, _⟩ := run_append_h w T E o.type z size bytes hT hinfo hz1 hsz hby base v k xs hown vx m news hh hl h1 hk hbase
  unfold Oper.wp
  simp [execOp, ho, resolve, invoke, builtin, hs, hx, hr, Result.andThen]
  exact h v' w' h2 h3

/-- a new empty row -/
theorem nil_row_new {e : TypeId} {s : Nat} (W : World) (N g : Nat) (hg : W.heap.size = g) (hB : N ≤ g) : (W.alloc (.cells #[] e)).ownsRow N e s (.slice (some ⟨g, 0, none⟩) 0 0) 0 [] := by
  subst hg
  exact ⟨by simp, .inr ⟨_, 0, #[], rfl, hB, _root_.Go.heap_alloc_new W _, Nat.le_refl _, by decide, by simp, by simp⟩⟩
theorem owns_keep {w w' : World} {base : Nat} {e : TypeId} {s : Nat} {v : Value} {n : Nat} {xs : List Value} (h : w.ownsRow base e s v n xs) (hk : Below w.heap.size w w') : w'.ownsRow base e s v n xs := by
  refine ⟨h.1, ?_⟩
  rcases h.2 with h1 | ⟨g, cap, cur, q1, q2, q3, q4⟩
  · exact .inl h1
  · exact .inr ⟨g, cap, cur, q1, q2, (hk.block g (Array.getElem?_eq_some_iff.1 q3).1).trans q3, q4⟩
theorem owns_ge {w : World} {base : Nat} {e : TypeId} {s : Nat} {v : Value} {n : Nat} {xs : List Value} (h : w.ownsRow base e s v n xs) {j : Nat} (hj : v.ownBlock = some j) : base ≤ j := by
  rcases h.2 with ⟨rfl, _⟩ | ⟨g, cap, cur, rfl, hb, _⟩
  · cases hj
  · simp [Value.ownBlock] at hj; omega

/-- all ahead of a call as it was -/
def Low (W w : World) : Prop := Below W.heap.size W w
theorem low_drew (W w : World) : Low W w.drew ↔ Low W w := ⟨fun h => ⟨h.os, h.tape, h.output, h.size, h.block⟩, fun h => Below.dN h 1⟩
theorem low_alloc {W w : World} (o : Obj) (h : Low W w) : Low W (w.alloc o) := Below.alloc h (Below.size h) o
theorem Low.ch {W w : World} (h : Low W w) {b off n c : Nat} {l : List Ch} (hl : HCh W (.slice (some ⟨b, off, none⟩) n c) l) (k : Nat) (hk : k < l.length) {x : Ch} (hx : l[k] = x) : w.cell? ⟨b, off + k * 4, none⟩ = some (.int .i64 x.A) ∧ w.cell? ⟨b, off + k * 4 + 1, none⟩ = some (.int .i64 x.AN) ∧ w.cell? ⟨b, off + k * 4 + 2, none⟩ = some (.int .i64 x.B) ∧ w.cell? ⟨b, off + k * 4 + 3, none⟩ = some (.int .i64 x.BN) := by
  obtain ⟨b', off', e, _, hc⟩ := HCh.at (HCh.keep hl h (Nat.le_refl _)) (by omega)
  cases e
  rw [← hx]
  exact hc k hk
/-- a row of one's own, and all ahead of a call as it was -/
structure St (W : World) (e : TypeId) (s : Nat) (v : Value) (k : Nat) (xs : List Value) (w : World) : Prop where
  own : w.ownsRow W.heap.size e s v k xs
  low : Below W.heap.size W w
theorem st_drew (W : World) (e : TypeId) (s : Nat) (v : Value) (k : Nat) (xs : List Value) (w : World) : St W e s v k xs w.drew ↔ St W e s v k xs w :=
  ⟨fun h => ⟨h.own, ⟨h.low.os, h.low.tape, h.low.output, h.low.size, h.low.block⟩⟩, fun h => ⟨h.own, Below.dN h.low 1⟩⟩
theorem st_alloc {W : World} {e : TypeId} {s : Nat} {v : Value} {k : Nat} {xs : List Value} {w : World} (o : Obj) (h : St W e s v k xs w) : St W e s v k xs (w.alloc o) := ⟨h.own.alloc o, h.low.alloc h.low.size o⟩
theorem St.grown {W : World} {e : TypeId} {s : Nat} {v v' : Value} {k k' : Nat} {xs xs' : List Value} {w w' : World} (h : St W e s v k xs w) (ho : w'.ownsRow W.heap.size e s v' k' xs') (hg : w.grownBy w' v.ownBlock) : St W e s v' k' xs' w' :=
  ⟨ho, h.low.grown hg h.low.size (fun _ hj => owns_ge h.own hj)⟩

set_option maxHeartbeats 1000000 in
theorem SameI_any (va vb : Value) (l : List Int) (w : World) (hlen : l.length ≤ 1099511627776) (ha : HI w va l) (hb : HI w vb l) :
    Calls Try.prog 21 #[va, vb] w fun e w' => e = .returned (.bool true) ∧ Below w.heap.size w w' := by
  obtain ⟨ao, ca, rfl⟩ := Holds.form ha
  obtain ⟨bo, cb, rfl⟩ := Holds.form hb
  go_enter Try.func21, Try.ntmps21
  go_wp2
  go_loopw [5] (fun i wr => ∃ k m : Nat, k ≤ l.length ∧ i = .int .i64 k ∧ wr = w.drewN m) (fun i _ => l.length - (intOf i).toNat)
  case atStart => exact ⟨0, 0, Nat.zero_le _, rfl, rfl⟩
  case round =>
    obtain ⟨k, m, hk, rfl, rfl⟩ := hrel
    by_cases hlt : k < l.length
    · obtain ⟨b1, o1, rfl, _, hc1⟩ := HI.at ha (by omega)
      obtain ⟨b2, o2, rfl, _, hc2⟩ := HI.at hb (by omega)
      have d1 := hc1 k hlt
      have d2 := hc2 k hlt
      clear hc1 hc2
      have i1 : 0 ≤ (k : Int) := by omega
      have i2 : (k : Int) < (l.length : Int) := by omega
      go_wp2_with fail
      go_quiet (fail)
      go_wp2
      go_roundw
      case rel => exact ⟨k + 1, _, by omega, by go_num, rfl⟩
      case measure => simp [intOf]; omega
    · go_wp2
      go_ret
      exact ⟨rfl, Below.dN (Below.refl _ w) _⟩

set_option maxHeartbeats 1000000 in
theorem SameC_any (va vb : Value) (l : List Ch) (w : World) (hlen : l.length ≤ 1099511627776) (ha : HCh w va l) (hb : HCh w vb l) :
    Calls Try.prog 12 #[va, vb] w fun e w' => e = .returned (.bool true) ∧ Below w.heap.size w w' := by
  obtain ⟨ao, ca, rfl⟩ := Holds.form ha
  obtain ⟨bo, cb, rfl⟩ := Holds.form hb
  go_enter Try.func12, Try.ntmps12
  go_wp2
  go_loopw [5] (fun i wr => ∃ k m : Nat, k ≤ l.length ∧ i = .int .i64 k ∧ wr = w.drewN m) (fun i _ => l.length - (intOf i).toNat)
  case atStart => exact ⟨0, 0, Nat.zero_le _, rfl, rfl⟩
  case round =>
    obtain ⟨k, m, hk, rfl, rfl⟩ := hrel
    by_cases hlt : k < l.length
    · obtain ⟨b1, o1, rfl, _, hc1⟩ := HCh.at ha (by omega)
      obtain ⟨b2, o2, rfl, _, hc2⟩ := HCh.at hb (by omega)
      obtain ⟨c0, c1, c2, c3⟩ := hc1 k hlt
      obtain ⟨d0, d1, d2, d3⟩ := hc2 k hlt
      obtain ⟨c, hcd⟩ : ∃ c, l[k] = c := ⟨_, rfl⟩
      rw [hcd] at c0 c1 c2 c3 d0 d1 d2 d3
      obtain ⟨A, AN, B, BN⟩ := c
      dsimp only at c0 c1 c2 c3 d0 d1 d2 d3
      clear hc1 hc2 hcd
      have i1 : 0 ≤ (k : Int) := by omega
      have i2 : (k : Int) < (l.length : Int) := by omega
      go_wp2_with fail
      go_quiet (fail)
      go_wp2
      go_roundw
      case rel => exact ⟨k + 1, _, by omega, by go_num, rfl⟩
      case measure => simp [intOf]; omega
    · go_wp2
      go_ret
      exact ⟨rfl, Below.dN (Below.refl _ w) _⟩
end Go.Proofs.Ytppdcjjkkckokaa
