/-
  Texts that belong together, joined: EfBl, EfCh, EfCu, EfFn, EfRn.
-/
import Derived.Test.YtnlbjknfahhfaaaGreatDoorPartC1
import Derived.Test.YtnlbjknfahhfaaaGreatDoorPartC2
import Derived.Test.YtnlbjknfahhfaaaGreatDoorPartA5

/- Lines in blocks, in memory: what a list of blocks holds, cell by cell. -/
set_option maxRecDepth 20000
namespace Go.Proofs.YtnlbjknfahhfaaaGreatDoor
open Go.RowKit

/-- a block of lines: where it lies, and its lines -/
structure Bck where
  g : Nat
  o : Nat
  c : Nat
  xs : List (List UInt8)
def Bck.v (x : Bck) : Value := .slice (some ⟨x.g, x.o, none⟩) x.xs.length x.c
def cat (X : List Bck) : List (List UInt8) := X.flatMap (·.xs)
theorem cat_append (X Y : List Bck) : cat (X ++ Y) = cat X ++ cat Y := by simp [cat]
theorem cat_cons (x : Bck) (X : List Bck) : cat (x :: X) = x.xs ++ cat X := by simp [cat]
/-- a block of lines in memory -/
def HB (w : World) (N : Nat) (x : Bck) : Prop := N ≤ x.g ∧ x.xs.length ≤ x.c ∧ ∃ cs : Array Value, w.heap[x.g]? = some (.cells cs 9 (0, 0)) ∧ ∀ j (hj : j < x.xs.length), cs[x.o + j]? = some (.string ⟨x.xs[j].toArray⟩)
def Apart (x y : Bck) : Prop := x.g ≠ y.g ∨ x.o + x.xs.length ≤ y.o ∨ y.o + y.xs.length ≤ x.o
theorem HB.lt {w : World} {N : Nat} {x : Bck} (h : HB w N x) : x.g < w.heap.size := by
  obtain ⟨_, _, cs, h1, _⟩ := h
  exact (Array.getElem?_eq_some_iff.1 h1).1
theorem HB.keep {w w' : World} {N : Nat} {x : Bck} (h : HB w N x) (hb : w'.heap[x.g]? = w.heap[x.g]?) : HB w' N x := by
  obtain ⟨h0, h1, cs, h2, h3⟩ := h
  exact ⟨h0, h1, cs, hb.trans h2, h3⟩
theorem HB.low {w w' : World} {N : Nat} {x : Bck} (h : HB w N x) (hb : Below w.heap.size w w') : HB w' N x := h.keep (hb.block _ h.lt)
theorem HB.cell {w : World} {N : Nat} {x : Bck} (h : HB w N x) (j : Nat) (hj : j < x.xs.length) : w.cell? ⟨x.g, x.o + j, none⟩ = some (.string ⟨x.xs[j].toArray⟩) ∧ w.frozen? ⟨x.g, x.o + j, none⟩ = false := by
  obtain ⟨_, _, cs, h2, h3⟩ := h
  exact ⟨by rw [Lib.cell_of_heap h2]; exact h3 j hj, by simp [World.frozen?, h2]⟩
/-- a part of a block, as a slice holds it -/
theorem HB.take {w : World} {N : Nat} {x : Bck} (h : HB w N x) (k : Nat) (hk : k ≤ x.xs.length) : Holds w (.slice (some ⟨x.g, x.o, none⟩) k x.c) k (scells (x.xs.take k)) := by
  obtain ⟨_, h1, cs, h2, h3⟩ := h
  refine .inr ⟨_, _, rfl, by omega, fun j u hj => ?_⟩
  have hl := (List.getElem?_eq_some_iff.1 hj).1
  rw [scells_length, List.length_take] at hl
  rw [add_none, Lib.cell_of_heap h2, h3 j (by omega), ← hj]
  simp [scells, List.getElem?_take]
  refine ⟨by omega, ?_⟩
  rw [List.getElem?_eq_getElem (by omega)]
  rfl
theorem HB.drop {w : World} {N : Nat} {x : Bck} (h : HB w N x) (k : Nat) (hk : k ≤ x.xs.length) : Holds w (.slice (slG (some ⟨x.g, x.o, none⟩) x.c k) (x.xs.length - k) (x.c - k)) (x.xs.length - k) (scells (x.xs.drop k)) := by
  obtain ⟨_, h1, cs, h2, h3⟩ := h
  unfold slG
  by_cases hc : x.c = k
  · rw [if_pos hc]
    refine .inr ⟨_, _, rfl, by omega, fun j u hj => ?_⟩
    have hl := (List.getElem?_eq_some_iff.1 hj).1
    rw [scells_length, List.length_drop] at hl
    omega
  · rw [if_neg hc, Option.map_some]
    refine .inr ⟨_, _, rfl, by omega, fun j u hj => ?_⟩
    have hl := (List.getElem?_eq_some_iff.1 hj).1
    rw [scells_length, List.length_drop] at hl
    rw [add_none, add_none, Lib.cell_of_heap h2, Nat.add_assoc, h3 (k + j) (by omega), ← hj]
    simp [scells, List.getElem?_drop]
    rw [List.getElem?_eq_getElem (by omega)]
    rfl
theorem HB.all {w : World} {N : Nat} {x : Bck} (h : HB w N x) : HS w x.v x.xs := by
  have := h.take x.xs.length (Nat.le_refl _)
  rw [List.take_length] at this
  exact this
/-- a new block of lines -/
theorem HB.new {w : World} {g N n : Nat} {xs : List (List UInt8)} (hN : N ≤ g) (hn : xs.length = n) (h : w.heap[g]? = some (.cells (scells xs).toArray 9 (0, 0))) : HB w N ⟨g, 0, n, xs⟩ := by
  refine ⟨hN, by dsimp only; omega, _, h, fun j hj => ?_⟩
  dsimp only at hj ⊢
  rw [Nat.zero_add]
  simp [scells, hj]
/-- the blocks in memory -/
structure Bks (w : World) (N : Nat) (v : Value) (X : List Bck) : Prop where
  row : ∃ (o c : Nat) (cs : Array Value), v = .slice (some ⟨o, 0, none⟩) X.length c ∧ X.length ≤ c ∧ N ≤ o ∧ w.heap[o]? = some (.cells cs 23 (0, 0)) ∧ ∀ j (hj : j < X.length), cs[j]? = some X[j].v
  ne : X ≠ []
  blk : ∀ x ∈ X, HB w N x
  apart : X.Pairwise Apart
theorem Bks.low {w w' : World} {N : Nat} {v : Value} {X : List Bck} (h : Bks w N v X) (hb : Below w.heap.size w w') : Bks w' N v X := by
  obtain ⟨o, c, cs, h1, h2, h3, h4, h5⟩ := h.row
  exact ⟨⟨o, c, cs, h1, h2, h3, (hb.block _ (Array.getElem?_eq_some_iff.1 h4).1).trans h4, h5⟩, h.ne, fun x hx => (h.blk x hx).low hb, h.apart⟩
theorem Bks.holds {w : World} {N : Nat} {v : Value} {X : List Bck} (h : Bks w N v X) : Holds w v X.length (X.map Bck.v) := by
  obtain ⟨o, c, cs, rfl, h2, _, h4, h5⟩ := h.row
  refine .inr ⟨_, _, rfl, h2, fun j u hj => ?_⟩
  have hl := (List.getElem?_eq_some_iff.1 hj).1
  rw [List.length_map] at hl
  rw [add_none, Lib.cell_of_heap h4, Nat.zero_add, h5 j hl, ← hj]
  simp [hl]
theorem Bks.at {w : World} {N : Nat} {ao : Option Addr} {n c : Nat} {X : List Bck} (h : Bks w N (.slice ao n c) X) : ∃ o, ao = some ⟨o, 0, none⟩ ∧ n = X.length ∧ X.length ≤ c ∧ o < w.heap.size ∧ ∀ j (hj : j < X.length), w.cell? ⟨o, j, none⟩ = some X[j].v := by
  obtain ⟨o, c', cs, h1, h2, _, h4, h5⟩ := h.row
  cases h1
  exact ⟨o, rfl, rfl, h2, (Array.getElem?_eq_some_iff.1 h4).1, fun j hj => by rw [Lib.cell_of_heap h4]; exact h5 j hj⟩
theorem bkv_one (X : List Bck) : ∀ u ∈ X.map Bck.v, u.oneCell' = true := by
  intro u hu
  obtain ⟨x, _, rfl⟩ := List.mem_map.1 hu
  rfl
/-- a new list of blocks -/
theorem Bks.new {w : World} {N g n : Nat} {X : List Bck} (h : w.heap[g]? = some (.cells (X.map Bck.v).toArray 23 (0, 0))) (hN : N ≤ g) (hn : X.length = n) (h0 : X ≠ []) (hb : ∀ x ∈ X, HB w N x) (ha : X.Pairwise Apart) : Bks w N (.slice (some ⟨g, 0, none⟩) n n) X := by
  refine ⟨⟨g, n, _, by rw [hn], by omega, hN, h, fun j hj => ?_⟩, h0, hb, ha⟩
  simp [hj]
/-- the lines ahead of a place: the block, and how many of them are in it -/
structure Fnd (X : List Bck) (a i k : Nat) : Prop where
  lt : i < X.length
  le : k ≤ (X[i]'lt).xs.length
  eq : (cat (X.take i)).length + k = a
  pos : 0 < a → 0 < k
  zero : a = 0 → i = 0
theorem cat_take (X : List Bck) (i : Nat) (hi : i < X.length) : cat (X.take (i + 1)) = cat (X.take i) ++ X[i].xs := by
  rw [List.take_succ_eq_append_getElem hi, cat_append]
  simp [cat]
theorem cat_split (X : List Bck) (i : Nat) (hi : i < X.length) : cat X = cat (X.take i) ++ (X[i].xs ++ cat (X.drop (i + 1))) := by
  have h : X = X.take i ++ (X[i] :: X.drop (i + 1)) := by rw [← List.drop_eq_getElem_cons hi, List.take_append_drop]
  have h2 := congrArg cat h
  rw [cat_append, cat_cons] at h2
  exact h2
theorem cat_mono (X : List Bck) (i j : Nat) (h : i ≤ j) : (cat (X.take i)).length ≤ (cat (X.take j)).length := by
  have e : X.take i = (X.take j).take i := by rw [List.take_take]; congr 1; omega
  have h2 := congrArg cat (List.take_append_drop i (X.take j))
  rw [cat_append, ← e] at h2
  rw [← h2, List.length_append]
  omega
/-- the block of an earlier place is not behind that of a later one -/
theorem Fnd.order {X : List Bck} {a b i j k m : Nat} (h : Fnd X a i k) (h' : Fnd X b j m) (hab : a ≤ b) : i ≤ j := by
  by_cases h0 : a = 0
  · rw [h.zero h0]; omega
  · have hk := h.pos (by omega)
    by_cases hij : i ≤ j
    · exact hij
    · exfalso
      have h1 := cat_mono X (j + 1) i (by omega)
      rw [cat_take X j h'.lt, List.length_append] at h1
      have := h.eq
      have := h'.eq
      have := h'.le
      omega
/-- what is there ahead of a place, and behind it -/
theorem Fnd.take {X : List Bck} {a i k : Nat} (h : Fnd X a i k) : (cat X).take a = cat (X.take i) ++ (X[i]'h.lt).xs.take k := by
  rw [cat_split X i h.lt, List.take_append, List.take_of_length_le (by have := h.eq; omega), List.take_append_of_le_length (by have := h.eq; have := h.le; omega)]
  congr 2
  have := h.eq
  omega
theorem Fnd.drop {X : List Bck} {a i k : Nat} (h : Fnd X a i k) : (cat X).drop a = (X[i]'h.lt).xs.drop k ++ cat (X.drop (i + 1)) := by
  have he := h.eq
  have hl := h.le
  rw [cat_split X i h.lt, List.drop_append, List.drop_of_length_le (by omega), List.nil_append, List.drop_append_of_le_length (by omega)]
  congr 2
  omega
end Go.Proofs.YtnlbjknfahhfaaaGreatDoor

/- The code's cut of layer 13, walked: lines in blocks, by slices.Chunk and slices.Collect. -/
set_option maxRecDepth 20000
namespace Go.Proofs.YtnlbjknfahhfaaaGreatDoor
open Go.RowKit Go.Shelf
attribute [local go_sem] Oper.semAt_some

/-- a piece of a block, from p on, of m lines -/
def ckB (x : Bck) (p m : Nat) : Bck := ⟨x.g, x.o + p, m, (x.xs.drop p).take m⟩
/-- the k-th piece of 512 lines -/
def ckN (x : Bck) (k : Nat) : Bck := ckB x (512 * k) (min 512 (x.xs.length - 512 * k))
def cks (x : Bck) (m : Nat) : List Bck := (List.range m).map (ckN x)
theorem cks_succ (x : Bck) (m : Nat) : cks x (m + 1) = cks x m ++ [ckN x m] := by simp [cks, List.range_succ]
theorem cks_len (x : Bck) (m : Nat) : (cks x m).length = m := by simp [cks]
theorem ckB_len (x : Bck) (p m : Nat) (h : p + m ≤ x.xs.length) : (ckB x p m).xs.length = m := by
  unfold ckB
  simp only [List.length_take, List.length_drop]
  omega
theorem ckN_len (x : Bck) (k : Nat) : (ckN x k).xs.length = min 512 (x.xs.length - 512 * k) := by
  unfold ckN
  by_cases h : 512 * k ≤ x.xs.length
  · exact ckB_len _ _ _ (by omega)
  · unfold ckB
    simp only [List.length_take, List.length_drop]
    omega
theorem cks_cat (x : Bck) (m : Nat) : cat (cks x m) = x.xs.take (512 * m) := by
  induction m with
  | zero => simp [cks, cat]
  | succ m ih =>
    rw [cks_succ, cat_append, ih]
    have e : cat [ckN x m] = (x.xs.drop (512 * m)).take 512 := by
      simp only [cat, List.flatMap_cons, List.flatMap_nil, List.append_nil]
      unfold ckN ckB
      dsimp only
      by_cases h : 512 ≤ x.xs.length - 512 * m
      · rw [Nat.min_eq_left h]
      · rw [Nat.min_eq_right (by omega), List.take_of_length_le (by rw [List.length_drop]; omega), List.take_of_length_le (by rw [List.length_drop]; omega)]
    rw [e, show 512 * (m + 1) = 512 * m + 512 by omega, List.take_add]
theorem cks_hb {w : World} {N : Nat} {x : Bck} (h : HB w N x) (m : Nat) : ∀ y ∈ cks x m, HB w N y ∧ y.g = x.g := by
  intro y hy
  obtain ⟨k, _, rfl⟩ := List.mem_map.1 hy
  obtain ⟨h0, h1, cs, h2, h3⟩ := h
  refine ⟨⟨h0, ?_, cs, h2, fun j hj => ?_⟩, rfl⟩
  · rw [ckN_len]; exact Nat.le_refl _
  · rw [ckN_len] at hj
    have := h3 (512 * k + j) (by omega)
    have e : (ckN x k).o + j = x.o + (512 * k + j) := by show x.o + 512 * k + j = _; omega
    rw [e, this]
    congr 4
    simp [ckN, ckB]
theorem cks_apart (x : Bck) (m : Nat) : (cks x m).Pairwise Apart := by
  unfold cks
  rw [List.pairwise_map]
  refine List.Pairwise.imp ?_ (List.pairwise_lt_range (n := m))
  intro a b hab
  right
  left
  rw [ckN_len]
  show x.o + 512 * a + _ ≤ x.o + 512 * b
  omega
theorem Chunk_any (ao : Option Addr) (len c : Nat) (w : World) :
    Calls Tryz.prog 79 #[.slice ao len c, .int .i64 512] w fun e w' =>
      e = .returned (.func (.func 115) #[] #[.pointer (some ⟨w.heap.size, 0, none⟩), .pointer (some ⟨w.heap.size + 1, 0, none⟩)]) ∧ w' = (w.alloc (.cells #[.slice ao len c] 23)).alloc (.cells #[.int .i64 512] 3) := by
  go_enter Tryz.func79, Tryz.ntmps79
  go_wp2
  go_ret
  exact ⟨rfl, rfl⟩
theorem run_ck {ao : Option Addr} {n c p m : Nat} (h : p + m ≤ n) (hc : n ≤ c) (hm : 0 < m) (g o : Nat) (ha : ao = some ⟨g, o, none⟩) (q : Int) (hq : q = ((p + m : Nat) : Int)) (u : World) :
    (Instr.slice 23 (.slice ao n c) (some (.int .i64 (p : Int))) (some (.int .i64 q)) (some (.int .i64 q))).run Tryz.prog u = .ok (.slice (some ⟨g, o + p, none⟩) m m) u := by
  subst hq ha
  rw [run_slice_lhm (P := Tryz.prog) u 23 (some ⟨g, o, none⟩) n c (by kernel_rfl) .i64 .i64 .i64 (p : Int) ((p + m : Nat) : Int) ((p + m : Nat) : Int) (by omega) (by omega) (by omega) (by omega), efsT u]
  simp [Result.andThen, sliced, add_none]
  omega
set_option maxRecDepth 100000 in
set_option maxHeartbeats 4000000 in
theorem chunk1_in (N : Nat) (hN : 1 ≤ N) (lp lo n₀ : Nat) (x : Bck) (M : Nat) (HM : Hid (x.xs.length ≤ 512 * M ∧ 512 * M < x.xs.length + 512)) (hn : x.xs.length ≤ 1099511627776) (hxc : x.xs.length ≤ x.c)
    (J Jx : List Bck → World → Prop) (W : World) (_hJ : AbidesFrom W.heap.size J)
    (hY : ∀ pre (y : Bck) W1, J pre W1 → pre.length < M → YieldAt Fence.wide (N - 1) Tryz.prog lp #[y.v] W1 fun e W' =>
      (e = .returned (.bool true) ∧ J (pre ++ [y]) W' ∧ Below n₀ W1 W') ∨ (e = .returned (.bool false) ∧ Jx (pre ++ [y]) W'))
    (_hlo : lo + 1 < n₀) (_hsz : n₀ ≤ W.heap.size) (hb0 : W.heap[lo]? = some (.cells #[x.v] 23 (0, 0))) (hb1 : W.heap[lo + 1]? = some (.cells #[.int .i64 512] 3 (0, 0))) (h0 : J [] W) :
    CallsIn Fence.wide N Tryz.prog 115 #[.func (.yield lp) #[] #[], .pointer (some ⟨lo, 0, none⟩), .pointer (some ⟨lo + 1, 0, none⟩)] W fun e W' => (∃ v, e = .returned v) ∧
      ((∃ ys : List Bck, ys = cks x M ∧ J ys W') ∨ (∃ pre, True ∧ Jx pre W')) := by
  obtain ⟨n, hnn⟩ : ∃ n, x.xs.length = n := ⟨_, rfl⟩
  have hxv : x.v = .slice (some ⟨x.g, x.o, none⟩) n x.c := by rw [← hnn]; rfl
  rw [hxv] at hb0
  have HNN : Hid (x.xs.length = n) := hnn
  rw [hnn] at hn hxc HM
  clear hnn hxv
  have hw0 := fun (wr : World) (hK : Below n₀ W wr) => (hK.block lo (by omega)).trans hb0
  have hw1 := fun (wr : World) (hK : Below n₀ W wr) => (hK.block (lo + 1) (by omega)).trans hb1
  refine callsIn_of_wp Tryz.func115 rfl trivial ?_ rfl
  simp only [Tryz.ntmps115, List.size_toArray, List.length_cons, List.length_nil, Nat.reduceAdd, Nat.reduceSub, Array.replicate_succ, Array.replicate_zero, List.push_toArray, List.append_toArray, List.nil_append, List.cons_append]
  gi_wp2
  gi_loopw [4] (fun iv wr => ∃ (k p : Nat) (pre : List Bck), k ≤ M ∧ iv = .int .i64 (p : Int) ∧ Hid (p = 512 * k) ∧ Below n₀ W wr ∧ J pre wr ∧ Hid (pre = cks x k)) (fun iv _ => n + 512 - (intOf iv).toNat)
  case atStart => exact ⟨0, 0, [], Nat.zero_le _, by go_num, rfl, Below.refl _ _, h0, rfl⟩
  case round =>
    obtain ⟨k, p, pre, hk, rfl, hp, hK, hJr, hR⟩ := hrel
    have d0 : wr.cell? ⟨lo, 0, none⟩ = some (.slice (some ⟨x.g, x.o, none⟩) n x.c) := by rw [Lib.cell_of_heap (hw0 wr hK)]; rfl
    have d1 : wr.cell? ⟨lo + 1, 0, none⟩ = some (.int .i64 512) := by rw [Lib.cell_of_heap (hw1 wr hK)]; rfl
    by_cases hlt : p < n
    · have i1 : (p : Int) < (n : Int) := by omega
      have hkM : k < M := (by have := hp.out; have := HM.out; omega)
      obtain ⟨m, hm⟩ : ∃ m, min 512 (n - p) = m := ⟨_, rfl⟩
      have hm1 : 0 < m ∧ m ≤ 512 ∧ p + m ≤ n := by omega
      have hsl := fun u => run_slG (T := 23) (by kernel_rfl) efsT (some ⟨x.g, x.o, none⟩) n x.c p (by omega) u
      have hck := fun u => run_ck (p := p) (m := m) hm1.2.2 hxc hm1.1 x.g x.o rfl ((p : Int) + (m : Int)) (by omega) u
      have HE : Hid (ckN x k = ⟨x.g, x.o + p, m, (x.xs.drop p).take m⟩) := (by
        show _ = _
        unfold ckN ckB
        rw [HNN.out, ← hp.out, hm])
      have hpre : pre.length = k := by rw [hR.out, cks_len]
      obtain ⟨fn, tmps, assign, body, hy, hRd⟩ := hY pre (ckN x k) wr.drew (_hJ pre wr wr.drew none hJr ⟨rfl, rfl, rfl, Nat.le_refl _, fun _ _ _ => rfl⟩ (fun q e => by cases e)) (by omega)
      have hyv : (ckN x k).v = .slice (some ⟨x.g, x.o + p, none⟩) m m := (by
        rw [HE.out]
        unfold Bck.v
        dsimp only
        have : ((x.xs.drop p).take m).length = m := by rw [List.length_take, List.length_drop, HNN.out]; omega
        rw [this])
      rw [hyv] at hy
      have hmin : (if ((n - p : Nat) : Int) < 512 then ((n - p : Nat) : Int) else 512) = (m : Int) := (by split <;> omega)
      have hmin2 : min (512 : Int) ((n - p : Nat) : Int) = (m : Int) := (by omega)
      have e0 : wr.drew.cell? ⟨lo, 0, none⟩ = some (.slice (some ⟨x.g, x.o, none⟩) n x.c) := d0
      have i2 : (p : Int) + (m : Int) ≤ 9223372036854775807 := by omega
      have i3 : IntKind.i64.wrap ((p : Int) + (m : Int)) = (p : Int) + (m : Int) := wrap_small _ (by omega) (by omega)
      gi_wp2
      gi_region
      gi_wp2
      refine hRd.mono ?_
      rintro e W3 (⟨rfl, hJ3, hk3⟩ | ⟨rfl, hJx3⟩)
      · have hK3 : Below n₀ W W3 := hK.drew.trans hk3
        have f1 : W3.cell? ⟨lo + 1, 0, none⟩ = some (.int .i64 512) := by rw [Lib.cell_of_heap (hw1 W3 hK3)]; rfl
        have i4 : IntKind.i64.wrap ((p : Int) + 512) = (p : Int) + 512 := wrap_small _ (by omega) (by omega)
        gi_wp2
        go_roundw
        case rel => exact ⟨k + 1, p + 512, pre ++ [ckN x k], by omega, by go_num, (by show _ = _; have := hp.out; omega), hK3, hJ3, (by show _ = _; rw [cks_succ, ← hR.out])⟩
        case measure => simp [intOf]; omega
      · gi_wp2
        refine bodyPost_ret (results_none rfl _ _ _) rfl ?_
        exact ⟨⟨_, rfl⟩, .inr ⟨_, trivial, hJx3⟩⟩
    · have hkM : k = M := (by have := hp.out; have := HM.out; omega)
      have i1 : decide ((p : Int) < (n : Int)) = false := decide_eq_false (by omega)
      gi_wp2
      go_end0
      exact ⟨⟨_, rfl⟩, .inl ⟨pre, by rw [hR.out, hkM], hJr⟩⟩
theorem chunk_stops (N : Nat) (hN : 1 ≤ N) (lo n₀ : Nat) (x : Bck) (M : Nat) (HM : Hid (x.xs.length ≤ 512 * M ∧ 512 * M < x.xs.length + 512)) (hn : x.xs.length ≤ 1099511627776) (hxc : x.xs.length ≤ x.c) (w : World)
    (hlo : lo + 1 < n₀) (hsz : n₀ ≤ w.heap.size) (hb0 : w.heap[lo]? = some (.cells #[x.v] 23 (0, 0))) (hb1 : w.heap[lo + 1]? = some (.cells #[.int .i64 512] 3 (0, 0))) :
    SeqStopsK Fence.wide N Tryz.prog 115 #[.pointer (some ⟨lo, 0, none⟩), .pointer (some ⟨lo + 1, 0, none⟩)] (fun y : Bck => #[y.v]) (Below n₀) (fun ys => ys = cks x M) (fun _ => True) M w := fun lp J Jx W hW hJ _ hY h0 =>
  chunk1_in N hN lp lo n₀ x M HM hn hxc J Jx W hJ hY hlo (Nat.le_trans hsz hW.size) ((hW.block _ (by omega)).trans hb0) ((hW.block _ (by omega)).trans hb1) h0
/-- a row of blocks in a box, within a range over the iterator -/
structure Cj (n₀ : Nat) (v : Value) (k : Nat) (xs : List Value) (W : World) : Prop where
  box : Boxed W n₀ 75 v
  row : W.ownsRow n₀ 23 1 v k xs
theorem Cj.alloc {n₀ : Nat} {v : Value} {k : Nat} {xs : List Value} {W : World} (h : Cj n₀ v k xs W) (o : Obj) : Cj n₀ v k xs (W.alloc o) := ⟨h.box.alloc o, h.row.alloc o⟩
theorem Cj.appended {n₀ : Nat} {v v' : Value} {k m : Nat} {xs ys : List Value} {W w1 : World} (h : Cj n₀ v k xs W) (hsz : n₀ ≤ W.heap.size) (hown' : w1.ownsRow n₀ 23 1 v' m ys) (hgrow : W.grownBy w1 v.ownBlock) :
    Boxed w1 n₀ 75 v ∧ Cj n₀ v' m ys (w1.setCell ⟨n₀, 0, none⟩ v') ∧ KeepsOthers W (w1.setCell ⟨n₀, 0, none⟩ v') ∧ Below n₀ W (w1.setCell ⟨n₀, 0, none⟩ v') := by
  have hte : 75 ≠ 23 := by decide
  have hv1 : Boxed w1 n₀ 75 v := h.box.kept hgrow (h.box.not_row hte h.row)
  have hset := grownBy_setCell' w1 n₀ v'
  have hrow : ∀ j, v.ownBlock = some j → ∃ cur, W.heap[j]? = some (.cells cur 23 (0, 0)) ∧ n₀ ≤ j := by
    intro j ej
    rcases h.row.2 with ⟨rfl, _⟩ | ⟨g, cap, cur, rfl, hb, hgb, _⟩
    · simp [Value.ownBlock] at ej
    · obtain rfl : g = j := by simpa [Value.ownBlock] using ej
      exact ⟨cur, hgb, hb⟩
  refine ⟨hv1, ⟨hv1.set v', hown'.kept hset (.inr (hv1.not_row hte hown').symm)⟩, ?_, ?_⟩
  · refine (KeepsOthers.of_grownBy hgrow fun j o ej hj => ?_).trans (KeepsOthers.setCell _ _ _)
    obtain ⟨cur, hc, _⟩ := hrow j ej
    rw [hc] at hj
    cases hj
    rfl
  · refine ((Below.refl n₀ W).grown hgrow hsz fun j ej => ?_).setCell (p := ⟨n₀, 0, none⟩) (Nat.le_refl _) v'
    obtain ⟨_, _, h2⟩ := hrow j ej
    exact h2
set_option maxRecDepth 100000 in
set_option maxHeartbeats 4000000 in
theorem AppendSeq_f (lo : Nat) (x : Bck) (M : Nat) (HM : Hid (x.xs.length ≤ 512 * M ∧ 512 * M < x.xs.length + 512)) (hn : x.xs.length ≤ 1099511627776) (hxc : x.xs.length ≤ x.c) (w : World)
    (hlo : lo + 1 < w.heap.size) (hb0 : w.heap[lo]? = some (.cells #[x.v] 23 (0, 0))) (hb1 : w.heap[lo + 1]? = some (.cells #[.int .i64 512] 3 (0, 0))) :
    Calls Tryz.prog 114 #[.slice none 0 0, .func (.func 115) #[] #[.pointer (some ⟨lo, 0, none⟩), .pointer (some ⟨lo + 1, 0, none⟩)]] w fun e w' => ∃ v, e = .returned v ∧ w'.ownsRow w.heap.size 23 1 v (cks x M).length ((cks x M).map Bck.v) ∧ Below w.heap.size w w' := by
  have hMb : M ≤ 2199023255552 := by have := HM.out; omega
  refine (callsIn_wide (n := 3)).1 ?_
  refine callsIn_of_wp_marks Tryz.func114 rfl trivial ?_ rfl
  simp only [Tryz.ntmps114, List.size_toArray, List.length_cons, List.length_nil, Nat.reduceAdd, Nat.reduceSub, Array.replicate_succ, Array.replicate_zero, List.push_toArray, List.append_toArray, List.nil_append, List.cons_append]
  gi_wp2
  obtain ⟨W0, hW0⟩ : ∃ W0, w.alloc (.cells #[.slice none 0 0] 75) = W0 := ⟨_, rfl⟩
  have hsz : W0.heap.size = w.heap.size + 1 := by rw [← hW0]; simp
  have hB0 : Below w.heap.size w W0 := by rw [← hW0]; exact (Below.refl _ w).alloc (Nat.le_refl _) _
  have bK : Boxed W0 w.heap.size 75 (.slice none 0 0) := by rw [← hW0]; exact Boxed.new w _ _
  rw [hW0]
  clear hW0
  refine wpIn_rangeFunc_ownH rfl (by omega) (gf := 115) (lb := #[.pointer (some ⟨lo, 0, none⟩), .pointer (some ⟨lo + 1, 0, none⟩)]) rfl trivial (enters_of Tryz.func115 (by kernel_rfl) rfl)
    (chunk_stops 2 (by omega) lo w.heap.size x M HM hn hxc W0 hlo (by omega) ((hB0.block _ (by omega)).trans hb0) ((hB0.block _ (by omega)).trans hb1)) Below.trans (belowK_b (by omega)) (Below.refl _ _) (fun _ => rfl)
    (fun pre W => (∃ v, Boxed W w.heap.size 75 v ∧ W.ownsRow w.heap.size 23 1 v (pre : List Bck).length (pre.map Bck.v) ∧ True) ∧ Below w.heap.size W0 W)
    (fun _ _ _ => False)
    (OwnFrom.and (Own.from (holdsRow_own (β := List Bck) w.heap.size w.heap.size 75 23 1 (fun pre => pre.length) (fun pre => pre.map Bck.v) (fun _ _ => True)) _) (ownFrom_below (by omega) (by omega)))
    (fun _ _ _ _ _ hs _ _ => hs)
    ⟨⟨_, bK, World.ownsRow_nil _ _ _ _, trivial⟩, Below.refl _ _⟩
    (fun y a' _ => a' = { tmps := #[.slice none 0 0, .func (.func 115) #[] #[.pointer (some ⟨lo, 0, none⟩), .pointer (some ⟨lo + 1, 0, none⟩)], .pointer (some ⟨w.heap.size, 0, none⟩), undef, .slice none 0 0, y.v, .func (.func 115) #[] #[.pointer (some ⟨lo, 0, none⟩), .pointer (some ⟨lo + 1, 0, none⟩)], y.v, undef, undef, undef, undef, undef], defers := [] })
    ?hAx ?assign ?body ?done ?stop
  case hAx =>
    rintro y a' _ A B row rfl hg hr
    rfl
  case assign =>
    rintro lp pre y W K hI hK
    gi_wp2
    exact hK _ _ ((KeepsOthers.refl _).from _) (Below.refl _ _) hI rfl
  case body =>
    rintro lp pre y a' W hlp ⟨r, hr⟩ ⟨⟨v, hbx, hrw, _⟩, hB⟩ rfl hlt
    have hO : Cj w.heap.size v pre.length (pre.map Bck.v) W := ⟨hbx, hrw⟩
    have hs := hB.size
    have hc := hbx.cell
    clear hbx hrw
    obtain ⟨yv, hyv⟩ : ∃ yv, y.v = yv := ⟨_, rfl⟩
    obtain ⟨yg, yn, yc, hyf⟩ : ∃ yg yn yc, yv = Value.slice (some yg) yn yc := ⟨_, _, _, hyv.symm⟩
    have HY : Hid (y.v = yv) := hyv
    rw [hyv]
    clear hyv
    subst hyf
    gi_wp2_with (gi_at_builtin; refine wpListIn_append_h _ rfl (.tmp 8) (.tmp 10) 75 23 rfl (.slice none 0 0) 1 24 Tryz.underlying75 infoL rfl (by decide) (by decide) w.heap.size v _ _ rfl (hO.row.alloc _) _ 1 [.slice (some yg) yn yc] rfl (new_holds _ _ _ _ _ (by decide)) rfl (by intro u hu; rw [List.mem_singleton.1 hu]; rfl) (by omega) (by simp; omega) ?_; intro v' w1 hown' hgrow hp; obtain ⟨g', cap', rfl⟩ := ownsRow_succ hown'; obtain ⟨hv1, hO2, hk2, hp2⟩ := (hO.alloc _).appended (by simp; omega) hown' hgrow; have hc1 := hv1.cell; have hf1 := hv1.frozen)
    have hkp := ((Below.refl w.heap.size W).alloc (by omega) _).trans hp2
    refine ⟨((KeepsOthers.alloc W _).trans hk2).from _, hkp, ⟨.slice (some ⟨g', 0, none⟩) (pre.length + 1) cap', hO2.box, ?_, trivial⟩, hB.trans hkp⟩
    have := hO2.row
    rw [← HY.out] at this
    simpa using this
  case done =>
    rintro D ys W hD hys ⟨⟨v, hbx, hrw, _⟩, hB⟩ hK
    have hc := hbx.cell
    gi_wp2
    refine ⟨by simp, .inl ⟨_, _, rfl, run_takeDeferred hK, ?_⟩⟩
    refine ⟨_, results_tmp rfl _ _ _, v, rfl, ?_, (hB0.trans hB).trans (belowK_b (w := w) (Nat.le_refl _) W D _ _ (by omega) hK rfl rfl)⟩
    have := ownsRow_putObj hrw (Obj.deferred none) hK rfl
    rw [hys] at this
    exact this
  case stop =>
    rintro D c pre W _ _ h _
    exact h.elim
end Go.Proofs.YtnlbjknfahhfaaaGreatDoor

/- The code's blocks of layer 13, walked: cut, inBlocks, bared, find, line. -/
set_option maxRecDepth 20000
namespace Go.Proofs.YtnlbjknfahhfaaaGreatDoor
open Go.RowKit

theorem Collect_f (lo : Nat) (x : Bck) (M : Nat) (HM : Hid (x.xs.length ≤ 512 * M ∧ 512 * M < x.xs.length + 512)) (hn : x.xs.length ≤ 1099511627776) (hxc : x.xs.length ≤ x.c) (w : World)
    (hlo : lo + 1 < w.heap.size) (hb0 : w.heap[lo]? = some (.cells #[x.v] 23 (0, 0))) (hb1 : w.heap[lo + 1]? = some (.cells #[.int .i64 512] 3 (0, 0))) :
    Calls Tryz.prog 78 #[.func (.func 115) #[] #[.pointer (some ⟨lo, 0, none⟩), .pointer (some ⟨lo + 1, 0, none⟩)]] w fun e w' => ∃ v, e = .returned v ∧ w'.ownsRow w.heap.size 23 1 v (cks x M).length ((cks x M).map Bck.v) ∧ Below w.heap.size w w' := by
  go_enter Tryz.func78, Tryz.ntmps78
  go_wp2_with fail
  refine (AppendSeq_f lo x M HM hn hxc w hlo hb0 hb1).mono ?_
  rintro e w1 ⟨v, rfl, h1, h2⟩
  go_wp2
  go_ret
  exact ⟨v, rfl, h1, h2⟩
/-- a row of one's own is a list of blocks -/
theorem Bks.of_own {w : World} {N B : Nat} {v : Value} {X : List Bck} (h : w.ownsRow B 23 1 v X.length (X.map Bck.v)) (hN : N ≤ B) (h0 : X ≠ []) (hb : ∀ x ∈ X, HB w N x) (ha : X.Pairwise Apart) : Bks w N v X := by
  have hc := h
  rcases h.2 with ⟨_, q⟩ | ⟨g, cap, cur, rfl, q2, q3, q4, _⟩
  · exact absurd (List.eq_nil_of_length_eq_zero q) h0
  · refine ⟨⟨g, cap, cur, rfl, q4, by omega, q3, fun j hj => ?_⟩, h0, hb, ha⟩
    have h1 := hc.cells (g := g) rfl j (X[j].v) (by simp [hj])
    rw [add_none, Lib.cell_of_heap q3, Nat.zero_add] at h1
    exact h1
set_option maxHeartbeats 1000000 in
theorem cut_f (x : Bck) (N : Nat) (w : World) (hx : HB w N x) (hn : x.xs.length ≤ 1099511627776) (hN : N ≤ w.heap.size) :
    Calls Tryz.prog 50 #[x.v] w fun e w' => ∃ v X, e = .returned v ∧ Bks w' N v X ∧ cat X = x.xs ∧ (∀ y ∈ X, y.g = x.g) ∧ 512 * X.length ≤ x.xs.length + 512 ∧ Below w.heap.size w w' := by
  obtain ⟨n, hnn⟩ : ∃ n, x.xs.length = n := ⟨_, rfl⟩
  have hxv : x.v = .slice (some ⟨x.g, x.o, none⟩) n x.c := by rw [← hnn]; rfl
  by_cases hs : n ≤ 1024
  · have hB : Below w.heap.size w (w.alloc (.cells #[x.v] 23)) := (Below.refl _ w).alloc (Nat.le_refl _) _
    have hk : Bks (w.alloc (.cells #[x.v] 23)) N (.slice (some ⟨w.heap.size, 0, none⟩) 1 1) [x] :=
      Bks.new (X := [x]) (_root_.Go.heap_alloc_new w _) hN rfl (by simp) (fun y hy => by rw [List.mem_singleton.1 hy]; exact hx.low hB) (List.pairwise_singleton _ _)
    have HK : Hid (Bks (w.alloc (.cells #[x.v] 23)) N (.slice (some ⟨w.heap.size, 0, none⟩) 1 1) [x]) := hk
    have i1 : (n : Int) ≤ 1024 := by omega
    clear hk hx
    rw [hxv] at HK hB ⊢
    clear hnn hxv
    go_enter Tryz.func50, Tryz.ntmps50
    go_wp2
    go_ret
    exact ⟨_, [x], rfl, HK.out, by simp [cat], fun y hy => by rw [List.mem_singleton.1 hy], by simp, hB⟩
  · have i1 : decide ((n : Int) ≤ 1024) = false := decide_eq_false (by omega)
    obtain ⟨M, hM1, hM2⟩ : ∃ M, n ≤ 512 * M ∧ 512 * M < n + 512 := ⟨(n + 511) / 512, by omega, by omega⟩
    have HM : Hid (x.xs.length ≤ 512 * M ∧ 512 * M < x.xs.length + 512) := (by rw [hnn]; exact ⟨hM1, hM2⟩)
    obtain ⟨W0, hW0⟩ : ∃ W0, (w.alloc (.cells #[x.v] 23)).alloc (.cells #[.int .i64 512] 3) = W0 := ⟨_, rfl⟩
    have hsz : W0.heap.size = w.heap.size + 1 + 1 := by rw [← hW0]; simp
    have hB0 : Below w.heap.size w W0 := by rw [← hW0]; exact ((Below.refl _ w).alloc (Nat.le_refl _) _).alloc (by simp) _
    have hb0 : W0.heap[w.heap.size]? = some (.cells #[x.v] 23 (0, 0)) := by rw [← hW0]; exact (Below.heap_alloc _ _ _ (by simp)).trans (_root_.Go.heap_alloc_new w _)
    have hb1 : W0.heap[w.heap.size + 1]? = some (.cells #[.int .i64 512] 3 (0, 0)) := (by
      rw [← hW0]
      have := _root_.Go.heap_alloc_new (w.alloc (.cells #[x.v] 23)) (.cells #[.int .i64 512] 3)
      rw [World.size_alloc] at this
      exact this)
    have hcl := Collect_f w.heap.size x M HM hn hx.2.1 W0 (by omega) hb0 hb1
    rw [hxv] at hW0 ⊢
    have HC : Hid (cat (cks x M) = x.xs) := (by show _ = _; rw [cks_cat, List.take_of_length_le (by omega)])
    have hM0 : 0 < M := by omega
    have HL : Hid (512 * (cks x M).length ≤ x.xs.length + 512) := (by show _ ≤ _; rw [cks_len, hnn]; omega)
    clear hnn hb0 hb1 HM hM1 hM2
    go_enter Tryz.func50, Tryz.ntmps50
    go_wp2_with fail
    refine (Chunk_any _ _ _ _).mono ?_
    rintro e w1 ⟨rfl, rfl⟩
    rw [hW0]
    go_wp2_with fail
    refine hcl.mono ?_
    rintro e w2 ⟨v, rfl, hr, hB2⟩
    have hB3 := hB0.trans (hB2.mono hB0.size)
    go_wp2
    go_ret
    exact ⟨v, cks x M, rfl, Bks.of_own hr (by omega) (fun q => by have := congrArg List.length q; rw [cks_len] at this; simp at this; omega) (fun y hy => (cks_hb (hx.low hB3) M y hy).1) (cks_apart x M), HC.out, fun y hy => (cks_hb hx M y hy).2, HL.out, hB3⟩
set_option maxHeartbeats 1000000 in
theorem inBlocks_f (x : Bck) (N : Nat) (w : World) (hx : HB w N x) (hn : x.xs.length ≤ 1099511627776) (hN : N ≤ w.heap.size) :
    Calls Tryz.prog 29 #[x.v] w fun e w' => ∃ v X, e = .returned (.agg #[v, .int .i64 (x.xs.length : Int)]) ∧ Bks w' N v X ∧ cat X = x.xs ∧ 512 * X.length ≤ x.xs.length + 512 ∧ Below w.heap.size w w' := by
  have hB0 : Below w.heap.size w (w.alloc (.cells #[.slice none 0 0, .int .i64 0] 77)) := (Below.refl _ w).alloc (Nat.le_refl _) _
  have hc0 := _root_.Go.heap_alloc_new w (.cells #[.slice none 0 0, .int .i64 0] 77)
  obtain ⟨W0, hW0⟩ : ∃ W0, w.alloc (.cells #[.slice none 0 0, .int .i64 0] 77) = W0 := ⟨_, rfl⟩
  rw [hW0] at hB0 hc0
  have hcl := cut_f x N W0 (hx.low hB0) hn (Nat.le_trans hN hB0.size)
  obtain ⟨n, hnn⟩ : ∃ n, x.xs.length = n := ⟨_, rfl⟩
  have hxv : x.v = .slice (some ⟨x.g, x.o, none⟩) n x.c := by rw [← hnn]; rfl
  rw [hxv, hnn] at hcl
  rw [hxv, hnn]
  clear hnn hxv
  go_enter Tryz.func29, Tryz.ntmps29
  go_wp2_with fail
  refine hcl.mono ?_
  rintro e w1 ⟨v, X, rfl, hk, hcat, _, hlb, hb1⟩
  have HLB : Hid (512 * X.length ≤ n + 512) := hlb
  clear hlb
  have hc1 := (hb1.block _ (Array.getElem?_eq_some_iff.1 hc0).1).trans hc0
  have d0 : w1.cell? ⟨w.heap.size, 0, none⟩ = some (.slice none 0 0) := by rw [Lib.cell_of_heap hc1]; rfl
  have d1 : w1.cell? ⟨w.heap.size, 1, none⟩ = some (.int .i64 0) := by rw [Lib.cell_of_heap hc1]; rfl
  have f0 : w1.frozen? ⟨w.heap.size, 0, none⟩ = false := by simp [World.frozen?, hc1]
  have f1 : w1.frozen? ⟨w.heap.size, 1, none⟩ = false := by simp [World.frozen?, hc1]
  have HK : Hid (∀ z0 z1, Bks ((w1.setCell ⟨w.heap.size, 0, none⟩ z0).setCell ⟨w.heap.size, 1, none⟩ z1) N v X) := (by
    intro z0 z1
    have kp : ∀ (k : Nat) (cs : Array Value) (t : TypeId), w1.heap[k]? = some (.cells cs t (0, 0)) → t ≠ 77 → ((w1.setCell ⟨w.heap.size, 0, none⟩ z0).setCell ⟨w.heap.size, 1, none⟩ z1).heap[k]? = w1.heap[k]? := by
      intro k cs t hk2 ht
      have hne : k ≠ w.heap.size := by
        rintro rfl
        rw [hc1] at hk2
        cases hk2
        exact ht rfl
      rw [heap_setCell_other _ _ _ _ hne, heap_setCell_other _ _ _ _ hne]
    obtain ⟨o, c, cs, h1, h2, h3, h4, h5⟩ := hk.row
    refine ⟨⟨o, c, cs, h1, h2, h3, (kp _ _ _ h4 (by decide)).trans h4, h5⟩, hk.ne, fun y hy => ?_, hk.apart⟩
    have hy2 := hk.blk y hy
    obtain ⟨_, _, cs2, q2, _⟩ := hk.blk y hy
    exact hy2.keep (kp _ _ _ q2 (by decide)))
  have hvf : ∃ ao c, v = .slice ao X.length c := (by obtain ⟨o, c, _, h1, _⟩ := hk.row; exact ⟨_, c, h1⟩)
  obtain ⟨ao, c, rfl⟩ := hvf
  have HCT : Hid (cat X = x.xs) := hcat
  have hP := heap_setCell_same _ w.heap.size 1 _ _ (.int .i64 (n : Int)) (heap_setCell_same w1 w.heap.size 0 _ _ (.slice ao X.length c) hc1)
  have hBw := hB0.trans (hb1.mono hB0.size)
  clear hk hcat hcl
  go_wp2
  refine bodyPost_ret (v := .agg #[.slice ao X.length c, .int .i64 (n : Int)]) (results_cell_row rfl _ _ w.heap.size 77 #[.slice ao X.length c, .int .i64 (n : Int)] (0, 0) _ rfl hP Tryz.underlying77 rfl (by kernel_rfl)) rfl ?_
  exact ⟨_, X, rfl, HK.out _ _, HCT.out, HLB.out, (hBw.setCell (Nat.le_refl _) _).setCell (Nat.le_refl _) _⟩
end Go.Proofs.YtnlbjknfahhfaaaGreatDoor

/- The code's bared, find and line of layer 13's blocks, walked. -/
set_option maxRecDepth 20000
namespace Go.Proofs.YtnlbjknfahhfaaaGreatDoor
open Go.RowKit

/-- a row that is filled from its front -/
def barK (a : List (List UInt8)) (k : Nat) : List Value := scells ((a.map bareT).take k) ++ List.replicate (a.length - k) (.string ⟨#[]⟩)
theorem barK_set (a : List (List UInt8)) (k : Nat) (h : k < a.length) : (barK a k).toArray.setIfInBounds k (.string ⟨(bareT a[k]).toArray⟩) = (barK a (k + 1)).toArray := by
  have e : (a.map bareT).take (k + 1) = (a.map bareT).take k ++ [bareT a[k]] := by
    rw [List.take_succ_eq_append_getElem (by simpa using h), List.getElem_map]
  have l1 : (scells ((a.map bareT).take k)).length = k := by rw [scells_length, List.length_take, List.length_map]; omega
  have e2 : List.replicate (a.length - k) (Value.string ⟨#[]⟩) = .string ⟨#[]⟩ :: List.replicate (a.length - (k + 1)) (.string ⟨#[]⟩) := by
    rw [show a.length - k = (a.length - (k + 1)) + 1 by omega]
    rfl
  unfold barK
  rw [e, e2, List.setIfInBounds_toArray, List.set_append_right _ _ (by omega), l1, Nat.sub_self, List.set_cons_zero, scells_append]
  simp [scells]
theorem barK_end (a : List (List UInt8)) : barK a a.length = scells (a.map bareT) := by
  unfold barK
  rw [Nat.sub_self, List.take_of_length_le (by simp)]
  simp
set_option maxRecDepth 10000 in
set_option maxHeartbeats 2000000 in
theorem bared_f (a : List (List UInt8)) (va : Value) (w : World) (ha : HS w va a) (hla : a.length ≤ 1099511627776) (HTA : Hid (∀ s ∈ a, s.length ≤ 1099511627776)) :
    Calls Tryz.prog 30 #[va] w fun e w' => e = .returned (.slice (some ⟨w.heap.size, 0, none⟩) a.length a.length) ∧ w'.heap[w.heap.size]? = some (.cells (scells (a.map bareT)).toArray 9 (0, 0)) ∧ Below w.heap.size w w' := by
  obtain ⟨ao, ca, rfl⟩ := Holds.form ha
  have hmk := run_make1 (z := .string ⟨#[]⟩) Tryz.underlying23 infoT rfl (by decide) a.length hla (a.length : Int) rfl
  have hz : (List.replicate a.length (Value.string ⟨#[]⟩)) = barK a 0 := by simp [barK, scells]
  rw [hz] at hmk
  have hB0 : Below w.heap.size w (w.alloc (.cells (barK a 0).toArray 9)) := (Below.refl _ w).alloc (Nat.le_refl _) _
  have hg0 := _root_.Go.heap_alloc_new w (.cells (barK a 0).toArray 9)
  clear hz
  go_enter Tryz.func30, Tryz.ntmps30
  go_wp2
  go_loopw [11] (fun i wr => ∃ k : Nat, k ≤ a.length ∧ i = .int .i64 (k : Int) ∧ Below w.heap.size w wr ∧ Hid (wr.heap[w.heap.size]? = some (.cells (barK a k).toArray 9 (0, 0)))) (fun i _ => a.length - (intOf i).toNat)
  case atStart => exact ⟨0, Nat.zero_le _, by go_num, hB0, hg0⟩
  case round =>
    clear hB0 hg0 hmk
    obtain ⟨k, hk, rfl, hbr, hg⟩ := hrel
    by_cases hlt : k < a.length
    · obtain ⟨bk, off, rfl, hbk, hcl⟩ := HS.at (HS.keep ha hbr (Nat.le_refl _)) (by omega)
      have c0 := hcl k hlt
      have hsl := HTA.out a[k] (List.getElem_mem _)
      have hst := barK_set a k hlt
      obtain ⟨s, hs⟩ : ∃ s, a[k] = s := ⟨_, rfl⟩
      rw [hs] at c0 hsl hst
      have HST : Hid ((barK a k).toArray.setIfInBounds k (.string ⟨(bareT s).toArray⟩) = (barK a (k + 1)).toArray) := hst
      have hlen : k < (barK a k).length := (by unfold barK; rw [List.length_append, scells_length, List.length_replicate, List.length_take, List.length_map]; omega)
      obtain ⟨u0, hu0⟩ : ∃ u0, (barK a k)[k] = u0 := ⟨_, rfl⟩
      have g0 : wr.cell? ⟨w.heap.size, k, none⟩ = some u0 := (by rw [Lib.cell_of_heap hg.out]; simp [hlen, hu0])
      have g1 : wr.frozen? ⟨w.heap.size, k, none⟩ = false := by simp [World.frozen?, hg.out]
      clear hcl hs hst hlen hu0
      have i1 : 0 ≤ (k : Int) := by omega
      have i2 : (k : Int) < (a.length : Int) := by omega
      go_wp2_with fail
      refine (lBare_f s _ (by omega)).mono ?_
      rintro e w1 ⟨rfl, rfl⟩
      go_wp2
      refine ⟨⟨k + 1, by omega, by go_num, hbr.setCell (Nat.le_refl _) _, ?_⟩, by simp [intOf]; omega⟩
      show _ = _
      rw [← HST.out]
      exact heap_setCell_same _ _ _ _ _ _ hg.out
    · have ek : k = a.length := by omega
      subst ek
      have hend : decide ((a.length : Int) < (a.length : Int)) = false := decide_eq_false (by omega)
      go_wp2
      go_ret
      exact ⟨rfl, by rw [← barK_end]; exact hg.out, hbr⟩
set_option maxRecDepth 10000 in
set_option maxHeartbeats 2000000 in
theorem efind_f (N g q : Nat) (ao : Option Addr) (n c : Nat) (X : List Bck) (w : World) (hk : Bks w N (.slice ao n c) X) (hc : w.cell? ⟨g, q, none⟩ = some (.slice ao n c)) (hX : X.length ≤ 1099511627776) (hT : (cat X).length ≤ 1099511627776) (a : Nat) (ha : a ≤ (cat X).length) :
    Calls Tryz.prog 116 #[.pointer (some ⟨g, q, none⟩), .int .i64 (a : Int)] w fun e w' => ∃ i k, e = .returned (.tuple #[.int .i64 (i : Nat), .int .i64 (k : Nat)]) ∧ Fnd X a i k ∧ w = w' := by
  obtain ⟨o, rfl, rfl, _, hol, hcl⟩ := hk.at
  have HCL : Hid (∀ j (hj : j < X.length), w.cell? ⟨o, j, none⟩ = some X[j].v) := hcl
  clear hcl
  have h0 : 0 < X.length := List.length_pos_iff.2 hk.ne
  go_enter Tryz.func116, Tryz.ntmps116
  go_wp2
  go_loopw [1, 4] (fun av iv wr => ∃ (i r : Nat), av = .int .i64 (r : Int) ∧ iv = .int .i64 (i : Int) ∧ i < X.length ∧ Hid ((cat (X.take i)).length + r = a) ∧ Hid (0 < a → 0 < r) ∧ Hid (a = 0 → i = 0) ∧ r ≤ a ∧ w = wr) (fun _ iv _ => X.length - (intOf iv).toNat)
  case atStart => exact ⟨0, a, rfl, rfl, h0, (by show _ = _; simp [cat]), fun h => h, fun _ => rfl, Nat.le_refl _, rfl⟩
  case round =>
    obtain ⟨i, r, rfl, rfl, hi, h1, h2, h3, h4, rfl⟩ := hrel
    have c0 := HCL.out i hi
    obtain ⟨m, hm⟩ : ∃ m, X[i].xs.length = m := ⟨_, rfl⟩
    have hv : X[i].v = .slice (some ⟨X[i].g, X[i].o, none⟩) m X[i].c := by rw [← hm]; rfl
    rw [hv] at c0
    have HM : Hid (X[i].xs.length = m) := hm
    have HSP : Hid ((cat (X.take (i + 1))).length = (cat (X.take i)).length + m) := (by show _ = _; rw [cat_take X i hi, List.length_append, hm])
    clear hv hm
    generalize (some (⟨X[i].g, X[i].o, none⟩ : Addr)) = ad at c0
    generalize X[i].c = cc at c0
    have j1 : (0 : Int) ≤ (i : Int) := by omega
    have j2 : (i : Int) < (X.length : Int) := by omega
    by_cases hlt : m < r
    · have l1 : (m : Int) < (r : Int) := by omega
      have hi2 : i + 1 < X.length := (by
        by_cases hq : i + 1 < X.length
        · exact hq
        · exfalso
          have e : X.take (i + 1) = X := List.take_of_length_le (by omega)
          have := HSP.out
          rw [e] at this
          have := h1.out
          omega)
      go_wp2
      go_roundw
      case rel => exact ⟨i + 1, r - m, by simp; omega, by go_num, hi2, (by show _ = _; have := HSP.out; have := h1.out; omega), fun _ => by omega, fun hq => absurd hq (by omega), by omega, trivial⟩
      case measure => simp [intOf]; omega
    · have l1 : decide ((m : Int) < (r : Int)) = false := decide_eq_false (by omega)
      have hF : Fnd X a i r := ⟨hi, by have := HM.out; omega, h1.out, h2.out, h3.out⟩
      go_wp2
      go_ret2
      exact ⟨i, r, rfl, hF, rfl⟩
set_option maxRecDepth 10000 in
set_option maxHeartbeats 2000000 in
theorem bline_f (N g q : Nat) (ao : Option Addr) (n c : Nat) (X : List Bck) (w : World) (hk : Bks w N (.slice ao n c) X) (hc : w.cell? ⟨g, q, none⟩ = some (.slice ao n c)) (hX : X.length ≤ 1099511627776) (hT : (cat X).length ≤ 1099511627776) (a : Nat) (h0 : 0 < a) (ha : a ≤ (cat X).length) :
    Calls Tryz.prog 80 #[.pointer (some ⟨g, q, none⟩), .int .i64 (a : Int)] w fun e w' => ∃ i k, ∃ h : Fnd X a i (k + 1), e = .returned (.pointer (some ⟨(X[i]'h.lt).g, (X[i]'h.lt).o + k, none⟩)) ∧ w = w' := by
  have hff := efind_f N g q ao n c X w hk hc hX hT a ha
  obtain ⟨o, rfl, rfl, _, hol, hcl⟩ := hk.at
  have HCL : Hid (∀ j (hj : j < X.length), w.cell? ⟨o, j, none⟩ = some X[j].v) := hcl
  clear hcl
  go_enter Tryz.func80, Tryz.ntmps80
  go_wp2_with fail
  refine hff.mono ?_
  rintro e w1 ⟨i, r, rfl, hF, rfl⟩
  have hr := hF.pos h0
  obtain ⟨k, rfl⟩ : ∃ k, r = k + 1 := ⟨r - 1, by omega⟩
  have hi := hF.lt
  have hle := hF.le
  have HF : Hid (Fnd X a i (k + 1)) := hF
  have hka : k ≤ 1099511627776 := by have := hF.eq; omega
  have c0 := HCL.out i hi
  obtain ⟨m, hm⟩ : ∃ m, X[i].xs.length = m := ⟨_, rfl⟩
  have hv : X[i].v = .slice (some ⟨X[i].g, X[i].o, none⟩) m X[i].c := by rw [← hm]; rfl
  rw [hv] at c0
  rw [hm] at hle
  obtain ⟨xg, hxg⟩ : ∃ xg, X[i].g = xg := ⟨_, rfl⟩
  obtain ⟨xo, hxo⟩ : ∃ xo, X[i].o = xo := ⟨_, rfl⟩
  have HP : Hid (X[i].g = xg ∧ X[i].o = xo) := ⟨hxg, hxo⟩
  rw [hxg, hxo] at c0
  generalize X[i].c = cc at c0
  clear hv hm hxg hxo hF
  have j1 : (0 : Int) ≤ (i : Int) := by omega
  have j2 : (i : Int) < (X.length : Int) := by omega
  have j3 : (0 : Int) ≤ (k : Int) := by omega
  have j4 : (k : Int) < (m : Int) := by omega
  have j5 : ((k + 1 : Nat) : Int) - 1 = (k : Int) := by omega
  have j6 : (k : Int) + 1 - 1 = (k : Int) := by omega
  go_wp2
  go_ret
  refine ⟨i, k, HF.out, ?_, rfl⟩
  rw [HP.out.1, HP.out.2]
  rfl
end Go.Proofs.YtnlbjknfahhfaaaGreatDoor

/- Steps of a region that draws its order, where reads and a call come up side by side. -/
set_option maxRecDepth 20000
namespace Go.Proofs.YtnlbjknfahhfaaaGreatDoor
open Go.RowKit

theorem ef_two {P : Program} {S : World → Prop} {md : Region.Mode} {ops : Array Oper} {Q : Exit → Act → World → Prop} {fuel : Nat} {listed : Array Bool} {A : Act} {w : World}
    (i d : Nat) (op : Oper) (j e : Nat) (oq : Oper) (hi : ops[i]? = some op) (hd : op.dst = some d) (hj : ops[j]? = some oq) (he : oq.dst = some e) (hr : Region.ready md ops listed = [i, j]) (hwt : Region.wanted op (yielded ops A.tmps) = true) (hwq : Region.wanted oq (yielded ops A.tmps) = true)
    (vp : Value) (wp : World) (hp : (execOp A.eval op).run P w = .ok (.value vp) wp) (hSp : S wp)
    (vq : Value) (wq : World) (hq : (execOp A.eval oq).run P w = .ok (.value vq) wq) (hSq : S wq)
    (h : wpAnyH P md ops Q S fuel (listed.setIfInBounds i true) (A.put (some d) vp) wp)
    (h2 : wpAnyH P md ops Q S fuel (listed.setIfInBounds j true) (A.put (some e) vq) wq) :
    wpAnyH P md ops Q S (fuel + 1) listed A w := by
  refine wpAnyH_ready hr (by simp) (AllReadyH.cons hi (fun K hK => ?_) (AllReadyH.cons hj (fun K hK => ?_) AllReadyH.nil))
  · refine step_want hwt ?_
    unfold Oper.wp
    rw [hp, Oper.upon_value]
    exact hK.out _ _ hSp (fun _ => by rw [hd]; exact h)
  · refine step_want hwq ?_
    unfold Oper.wp
    rw [hq, Oper.upon_value]
    exact hK.out _ _ hSq (fun _ => by rw [he]; exact h2)
/-- a call and a read, in whatever order; b: the call's number is the lesser one -/
theorem ef_call {P : Program} {S : World → Prop} {md : Region.Mode} {ops : Array Oper} {Q : Exit → Act → World → Prop} {fuel : Nat} {listed : Array Bool} {A : Act} {w : World}
    (rd : List Nat) (hrd : Region.ready md ops listed = rd) (hrn : rd ≠ [])
    (i d : Nat) (op : Oper) (hi : ops[i]? = some op) (hd : op.dst = some d) (hwt : Region.wanted op (yielded ops A.tmps) = true)
    (F : Nat) (x : Operand) (xs : Array Operand) (ts : Array TypeId) (ho : op.op = .call { callee := .value x, args := xs, argTypes := ts })
    (cap : Array Value) (hxv : A.eval x = .func (.func F) #[] cap) (args : Array Value) (hx : xs.map A.eval = args) (hen : ∀ args w, (callFunc F args).run P w = .ok (.enter F args) w) (R : Value → World → Prop)
    (hc : Calls P F (args ++ cap) w fun e w' => ∃ v, e = .returned v ∧ S w' ∧ R v w')
    (h : ∀ v w', S w' → R v w' → wpAnyH P md ops Q S fuel (listed.setIfInBounds i true) (A.put (some d) v) w')
    (j e : Nat) (oj : Oper) (hj : ops[j]? = some oj) (he : oj.dst = some e) (hwj : Region.wanted oj (yielded ops A.tmps) = true) (vj : Value) (hvj : (execOp A.eval oj).run P w = .ok (.value vj) w) (hS : S w)
    (h2 : wpAnyH P md ops Q S fuel (listed.setIfInBounds j true) (A.put (some e) vj) w)
    (k f : Nat) (ok : Oper) (hk : ops[k]? = some ok) (hf : ok.dst = some f) (hwk : Region.wanted ok (yielded ops A.tmps) = true) (vk : Value) (hvk : (execOp A.eval ok).run P w = .ok (.value vk) w)
    (h3 : wpAnyH P md ops Q S fuel (listed.setIfInBounds k true) (A.put (some f) vk) w)
    (hrs : rd = [j, i] ∨ rd = [i, k] ∨ rd = [j, i, k]) :
    wpAnyH P md ops Q S (fuel + 1) listed A w := by
  have e0 : (execOp A.eval op).run P w = .ok (.enter F (args ++ cap)) w := by
    have h1 := hen (args ++ cap) w
    simp only [execOp, ho, resolve, invoke]
    simp only [hxv, Deferred.ofValue, Sem.run_bind, Sem.run_pure, Result.andThen_ok, hx, Array.empty_append]
    exact h1
  rcases hrs with rfl | rfl | rfl
  · refine wpAnyH_ready hrd hrn (AllReadyH.cons hj (fun K hK => ?_) (AllReadyH.cons hi (fun K hK => ?_) AllReadyH.nil))
    · refine step_want hwj ?_
      unfold Oper.wp
      rw [hvj, Oper.upon_value]
      exact hK.out _ _ hS (fun _ => by rw [he]; exact h2)
    · refine step_want hwt ?_
      unfold Oper.wp
      rw [e0, Oper.upon_enter]
      refine hc.mono ?_
      rintro e w' ⟨v, rfl, hb, hR⟩
      exact hK.out _ _ hb (fun hu => by rw [hd]; exact h v w' hu hR)
  · refine wpAnyH_ready hrd hrn (AllReadyH.cons hi (fun K hK => ?_) (AllReadyH.cons hk (fun K hK => ?_) AllReadyH.nil))
    · refine step_want hwt ?_
      unfold Oper.wp
      rw [e0, Oper.upon_enter]
      refine hc.mono ?_
      rintro e w' ⟨v, rfl, hb, hR⟩
      exact hK.out _ _ hb (fun hu => by rw [hd]; exact h v w' hu hR)
    · refine step_want hwk ?_
      unfold Oper.wp
      rw [hvk, Oper.upon_value]
      exact hK.out _ _ hS (fun _ => by rw [hf]; exact h3)
  · refine wpAnyH_ready hrd hrn (AllReadyH.cons hj (fun K hK => ?_) (AllReadyH.cons hi (fun K hK => ?_) (AllReadyH.cons hk (fun K hK => ?_) AllReadyH.nil)))
    · refine step_want hwj ?_
      unfold Oper.wp
      rw [hvj, Oper.upon_value]
      exact hK.out _ _ hS (fun _ => by rw [he]; exact h2)
    · refine step_want hwt ?_
      unfold Oper.wp
      rw [e0, Oper.upon_enter]
      refine hc.mono ?_
      rintro e w' ⟨v, rfl, hb, hR⟩
      exact hK.out _ _ hb (fun hu => by rw [hd]; exact h v w' hu hR)
    · refine step_want hwk ?_
      unfold Oper.wp
      rw [hvk, Oper.upon_value]
      exact hK.out _ _ hS (fun _ => by rw [hf]; exact h3)
theorem ef_load {u : World} {a : Addr} {ao : Option Addr} {n c : Nat} (h : u.cell? a = some (.slice ao n c)) {op : Oper} (x : Operand) (ho : op.op = .load 75 x) {ev : Operand → Value} (hx : ev x = .pointer (some a)) :
    (execOp ev op).run Tryz.prog u = .ok (.value (.slice ao n c)) u := by
  simp only [execOp, ho, hx]
  go_simp
theorem ef_store {u : World} {a : Addr} {ao : Option Addr} {n c : Nat} (h : u.cell? a = some (.slice ao n c)) (hf : u.frozen? a = false) {ao' : Option Addr} {n' c' : Nat} {op : Oper} (x y : Operand) (ho : op.op = .store 75 x y) {ev : Operand → Value} (hx : ev x = .pointer (some a)) (hy : ev y = .slice ao' n' c') :
    (execOp ev op).run Tryz.prog u = .ok .skip (u.setCell a (.slice ao' n' c')) := by
  simp only [execOp, ho, hx, hy]
  go_simp
theorem ef_add {u : World} {p q r : Int} (h : IntKind.i64.wrap (p + q) = r) {op : Oper} (x l : Operand) (ho : op.op = .binOp .add 3 x l 3) {ev : Operand → Value} (hx : ev x = .int .i64 p) (hl : ev l = .int .i64 q) :
    (execOp ev op).run Tryz.prog u = .ok (.value (.int .i64 r)) u := by
  subst h
  simp only [execOp, ho, hx, hl]
  go_simp
theorem ef_slH {u : World} {v v' : Value} {k : Int} (hr : (Instr.slice 75 v none (some (.int .i64 k)) none).run Tryz.prog u = .ok v' u) (hv : ∃ ao n c, v = .slice ao n c) {op : Oper} (x z : Operand) (ho : op.op = .slice 75 x none (some z) none) {ev : Operand → Value} (hx : ev x = v) (hz : ev z = .int .i64 k) :
    (execOp ev op).run Tryz.prog u = .ok (.value v') u := by
  obtain ⟨ao, n, c, rfl⟩ := hv
  have h2 := run_sliceAt_slice (P := Tryz.prog) (w := u) 75 (.slice ao n c) none (some (.int .i64 k)) none (by kernel_rfl)
  simp only [execOp, ho, hx, hz, Option.map_some, Option.map_none, Sem.run_bind, h2, hr, Result.andThen_ok, Sem.run_pure]
theorem ef_slL {u : World} {v v' : Value} {k : Int} (hr : (Instr.slice 75 v (some (.int .i64 k)) none none).run Tryz.prog u = .ok v' u) (hv : ∃ ao n c, v = .slice ao n c) {op : Oper} (x z : Operand) (ho : op.op = .slice 75 x (some z) none none) {ev : Operand → Value} (hx : ev x = v) (hz : ev z = .int .i64 k) :
    (execOp ev op).run Tryz.prog u = .ok (.value v') u := by
  obtain ⟨ao, n, c, rfl⟩ := hv
  have h2 := run_sliceAt_slice (P := Tryz.prog) (w := u) 75 (.slice ao n c) (some (.int .i64 k)) none none (by kernel_rfl)
  simp only [execOp, ho, hx, hz, Option.map_some, Option.map_none, Sem.run_bind, h2, hr, Result.andThen_ok, Sem.run_pure]
end Go.Proofs.YtnlbjknfahhfaaaGreatDoor
