/-
  The iterator slices.Backward over a row of pairs: its contract for every loop body that keeps what it reads.
-/
import Derived.Test.YtppdcjjkkckokaaPaRow
import Derived.Test.YtppdcjjkkckokaaEdOwn
namespace Go.Proofs.Ytppdcjjkkckokaa
open Go.RowKit Go.Shelf
attribute [local go_sem] Oper.semAt_some

/-- what a round keeps: all below n₀, and the iterator's box -/
structure Kq (n₀ lo : Nat) (W W' : World) : Prop where
  low : Below n₀ W W'
  box : W'.heap[lo]? = W.heap[lo]?
section
variable {n₀ lo : Nat} {A B C : World}
theorem Kq.refl (W : World) : Kq n₀ lo W W := ⟨Below.refl _ _, rfl⟩
theorem Kq.trans (h : Kq n₀ lo A B) (k : Kq n₀ lo B C) : Kq n₀ lo A C := ⟨h.low.trans k.low, k.box.trans h.box⟩
theorem Kq.alloc {W : World} (hn : n₀ ≤ W.heap.size) (hl : lo < W.heap.size) (o : Obj) : Kq n₀ lo W (W.alloc o) := ⟨(Below.refl _ W).alloc hn o, Below.heap_alloc W o lo hl⟩
theorem Kq.putObj {w : World} (hn : n₀ ≤ w.heap.size) (hl : lo < w.heap.size) (W : World) (l : Nat) (o o' : Obj) (hlw : w.heap.size ≤ l) (h : W.heap[l]? = some o) (hc : o.isCells = false) (hw : o.isWalk = false) : Kq n₀ lo W (W.putObj l o') :=
  ⟨belowK_b hn W l o o' hlw h hc hw, by have hne : l ≠ lo := (by omega); simp [World.putObj, hne]⟩
theorem Kq.drewN (W : World) (k : Nat) : Kq n₀ lo W (W.drewN k) := ⟨Below.dN (Below.refl _ W) k, rfl⟩
end
/-- the members with their places -/
def en (k : Nat) : List Pr → List (Nat × Pr)
  | [] => []
  | p :: t => (k, p) :: en (k + 1) t
theorem en_append (k : Nat) (a b : List Pr) : en k (a ++ b) = en k a ++ en (k + a.length) b := by
  induction a generalizing k with
  | nil => rfl
  | cons p t ih => simp [en, ih]; congr 1; omega
theorem en_take (l : List Pr) (i : Nat) (hi : i < l.length) : (en 0 (l.take (i + 1))).reverse = (i, l[i]) :: (en 0 (l.take i)).reverse := by
  rw [List.take_succ_eq_append_getElem hi, en_append, List.reverse_append]
  have : 0 + (l.take i).length = i := by rw [List.length_take]; omega
  rw [this]
  rfl
theorem en_snd (k : Nat) (l : List Pr) : (en k l).map (·.2) = l := by
  induction l generalizing k with
  | nil => rfl
  | cons p t ih => simp [en, ih]
/-- a member with its place, which is below n -/
abbrev Mp (n : Nat) := { x : Nat × Pr // x.1 < n }

theorem Backward_any (ao : Option Addr) (len c : Nat) (w : World) :
    Calls Try.prog 59 #[.slice ao len c] w fun e w' =>
      e = .returned (.func (.func 73) #[] #[.pointer (some ⟨w.heap.size, 0, none⟩)]) ∧ w' = w.alloc (.cells #[.slice ao len c] 41) := by
  go_enter Try.func59, Try.ntmps59
  go_wp2
  go_ret
  exact ⟨rfl, rfl⟩

set_option maxRecDepth 100000 in
set_option maxHeartbeats 2000000 in
theorem back1_in (N : Nat) (hN : 1 ≤ N) (lp lo n₀ : Nat) (ao : Option Addr) (ca : Nat) (l : List Pr) (hlen : l.length ≤ 1048576)
    (J Jx : List (Mp l.length) → World → Prop) (W : World) (_hJ : AbidesFrom W.heap.size J)
    (hY : ∀ pre (x : Mp l.length) W1, J pre W1 → pre.length < l.length → YieldAt Fence.wide (N - 1) Try.prog lp #[.int .i64 (x.1.1 : Int), prV x.1.2] W1 fun e W' =>
      (e = .returned (.bool true) ∧ J (pre ++ [x]) W' ∧ Kq n₀ lo W1 W') ∨ (e = .returned (.bool false) ∧ Jx (pre ++ [x]) W'))
    (_hlo : n₀ ≤ lo) (_hsz : lo < W.heap.size) (hb0 : W.heap[lo]? = some (.cells #[.slice ao l.length ca] 41 (0, 0)))
    (hl : HPr W (.slice ao l.length ca) l) (hb : ∀ a, ao = some a → 0 < l.length → a.block < n₀) (h0 : J [] W) :
    CallsIn Fence.wide N Try.prog 73 #[.func (.yield lp) #[] #[], .pointer (some ⟨lo, 0, none⟩)] W fun e W' => (∃ v, e = .returned v) ∧
      ((∃ ys : List (Mp l.length), ys.map (·.1) = (en 0 l).reverse ∧ J ys W') ∨ (∃ pre, True ∧ Jx pre W')) := by
  have d0 : W.cell? ⟨lo, 0, none⟩ = some (.slice ao l.length ca) := by rw [Lib.cell_of_heap hb0]; rfl
  refine callsIn_of_wp Try.func73 rfl trivial ?_ rfl
  simp only [Try.ntmps73, List.size_toArray, List.length_cons, List.length_nil, Nat.reduceAdd, Nat.reduceSub, Array.replicate_succ, Array.replicate_zero, List.push_toArray, List.append_toArray, List.nil_append, List.cons_append]
  gi_wp2
  gi_loopw [3] (fun iv wr => ∃ (k : Nat) (z : Int) (pre : List (Mp l.length)), k ≤ l.length ∧ pre.length + k = l.length ∧ iv = .int .i64 z ∧ z + 1 = k ∧ Kq n₀ lo W wr ∧ J pre wr ∧ Hid (pre.map (·.1) ++ (en 0 (l.take k)).reverse = (en 0 l).reverse)) (fun iv _ => (intOf iv + 1).toNat)
  case atStart => exact ⟨l.length, (l.length : Int) - 1, [], Nat.le_refl _, by simp, by go_num, by omega, Kq.refl W, h0, (by show _ = _; simp)⟩
  case round =>
    obtain ⟨k, z, pre, hk, hpl, rfl, hz, hK, hJr, hR⟩ := hrel
    have hszr := hK.low.size
    have hbx := hK.box.trans hb0
    have d1 : wr.cell? ⟨lo, 0, none⟩ = some (.slice ao l.length ca) := by rw [Lib.cell_of_heap hbx]; rfl
    cases k with
    | zero =>
      obtain rfl : z = -1 := by omega
      gi_wp2
      go_end0
      exact ⟨⟨_, rfl⟩, .inl ⟨pre, by have h := hR.out; rw [← h]; simp [en], hJr⟩⟩
    | succ i =>
      obtain rfl : z = (i : Int) := by omega
      have hlt : i < l.length := by omega
      obtain ⟨bk, off, rfl, hbk, hc⟩ := HPr.at hl (by omega)
      have hbn := hb _ rfl (by omega)
      have hcell : ∀ o v, W.cell? ⟨bk, o, none⟩ = some v → wr.cell? ⟨bk, o, none⟩ = some v := fun o v h => by
        rw [← h]
        unfold World.cell?
        rw [hK.low.block bk hbn]
      obtain ⟨c0', c1'⟩ := hc i hlt
      have c0 := hcell _ _ c0'
      have c1 := hcell _ _ c1'
      have HR : Hid (pre.map (·.1) ++ (i, l[i]) :: (en 0 (l.take i)).reverse = (en 0 l).reverse) := (by
        show _ = _
        rw [← en_take l i hlt]
        exact hR.out)
      obtain ⟨p, hp⟩ : ∃ p, l[i] = p := ⟨_, rfl⟩
      rw [hp] at c0 c1 HR
      clear hc c0' c1' hcell hR hp
      have i1 : 0 ≤ (i : Int) := by omega
      have i2 : (i : Int) < (l.length : Int) := by omega
      obtain ⟨X, Y⟩ := p
      dsimp only at c0 c1
      obtain ⟨fn, tmps, assign, body, hy, hRd⟩ := hY pre ⟨(i, ⟨X, Y⟩), hlt⟩ wr hJr (by omega)
      simp only [prV] at hy
      gi_wp2
      refine hRd.mono ?_
      rintro e W3 (⟨rfl, hJ3, hk3⟩ | ⟨rfl, hJx3⟩)
      · gi_wp2
        go_roundw
        case rel => exact ⟨i, (i : Int) - 1, pre ++ [⟨(i, ⟨X, Y⟩), hlt⟩], by omega, by simp; omega, by go_num, by omega, hK.trans hk3, hJ3, (by show _ = _; rw [← HR.out]; simp)⟩
        case measure => simp [intOf]
      · gi_wp2
        refine bodyPost_ret (results_none rfl _ _ _) rfl ?_
        exact ⟨⟨_, rfl⟩, .inr ⟨_, trivial, hJx3⟩⟩

theorem HPr.lt {w : World} {ao : Option Addr} {n c : Nat} {l : List Pr} (h : HPr w (.slice ao n c) l) (a : Addr) (ha : ao = some a) (h0 : 0 < l.length) : a.block < w.heap.size := by
  obtain ⟨b, off, hb, hlt, _⟩ := HPr.at h h0
  rw [ha] at hb
  cases hb
  exact hlt
/-- the iterator over a row of pairs from its end -/
theorem back_stops (N : Nat) (hN : 1 ≤ N) (lo n₀ : Nat) (ao : Option Addr) (ca : Nat) (l : List Pr) (hlen : l.length ≤ 1048576) (w : World)
    (hlo : n₀ ≤ lo) (hsz : lo < w.heap.size) (hb0 : w.heap[lo]? = some (.cells #[.slice ao l.length ca] 41 (0, 0))) (hl : HPr w (.slice ao l.length ca) l) (hb : ∀ a, ao = some a → 0 < l.length → a.block < n₀) :
    SeqStopsK Fence.wide N Try.prog 73 #[.pointer (some ⟨lo, 0, none⟩)] (fun x : Mp l.length => #[.int .i64 (x.1.1 : Int), prV x.1.2]) (Kq n₀ lo) (fun ys => ys.map (·.1) = (en 0 l).reverse) (fun _ => True) l.length w := fun lp J Jx W hW hJ _ hY h0 =>
  back1_in N hN lp lo n₀ ao ca l hlen J Jx W hJ hY hlo (Nat.lt_of_lt_of_le hsz hW.size) ((hW.block _ hsz).trans hb0) (HPr.keep hl hW (Nat.le_refl _)) hb h0
end Go.Proofs.Ytppdcjjkkckokaa
