/-
  Texts that belong together, joined: HiOd, HiBm, HiBs, HiPc, PcWk.
-/
import Derived.Test.YtmhanngimmjmoabPart4
import Derived.Deep.CutRange
import Derived.WalkMore

/- Whether a run is rather held on to: outdoes, walked. -/
namespace Go.Proofs.Ytmhanngimmjmoab
open Go.RowKit

/-- a run as a value, and in a box -/
def hrV (r : Hr) : Value := .agg #[.int .i64 (r.X : Int), .int .i64 (r.Y : Int), .int .i64 (r.N : Int), .int .i64 (r.R : Int)]
def Hbx (u : World) (B : Nat) (r : Hr) : Prop := u.heap[B]? = some (.cells #[.int .i64 (r.X : Int), .int .i64 (r.Y : Int), .int .i64 (r.N : Int), .int .i64 (r.R : Int)] 34 (0, 0))
section
variable {u u' : World} {B : Nat} {r : Hr}
theorem Hbx.cells (h : Hbx u B r) : u.cell? ⟨B, 0, none⟩ = some (.int .i64 (r.X : Int)) ∧ u.cell? ⟨B, 1, none⟩ = some (.int .i64 (r.Y : Int)) ∧ u.cell? ⟨B, 2, none⟩ = some (.int .i64 (r.N : Int)) ∧ u.cell? ⟨B, 3, none⟩ = some (.int .i64 (r.R : Int)) := by
  refine ⟨?_, ?_, ?_, ?_⟩ <;> rw [Lib.cell_of_heap h] <;> rfl
theorem Hbx.frozen (h : Hbx u B r) (j : Nat) : u.frozen? ⟨B, j, none⟩ = false := by
  unfold World.frozen?
  rw [h]
  rfl
theorem Hbx.lt (h : Hbx u B r) : B < u.heap.size := (Array.getElem?_eq_some_iff.1 h).1
theorem Hbx.keep (h : Hbx u B r) {g : Option Nat} (hg : u.grownBy u' g) (hr : some B ≠ g) : Hbx u' B r := (hg.block B h.lt hr).trans h
theorem Hbx.low (h : Hbx u B r) (hg : Below u.heap.size u u') : Hbx u' B r := (hg.block B h.lt).trans h
theorem Hbx.new (w : World) (r : Hr) : Hbx (w.alloc (.cells #[.int .i64 (r.X : Int), .int .i64 (r.Y : Int), .int .i64 (r.N : Int), .int .i64 (r.R : Int)] 34)) w.heap.size r := _root_.Go.heap_alloc_new w _
end
theorem compare_held {a b r : Int} {W u : World} (hr : Hid (cmpI a b = r)) (hL : Low W u) : Calls Try.prog 37 (#[.int .i64 a, .int .i64 b] ++ #[]) u fun e w' => ∃ v, e = .returned v ∧ Low W w' ∧ v = .int .i64 r := by
  refine (Compare_f a b r u hr).mono ?_
  rintro e w' ⟨rfl, rfl⟩
  exact ⟨_, rfl, hL, rfl⟩
theorem or_held (l : List Int) {v : Value} {W u : World} (hl : HI u v l) (hll : l.length ≤ 1048576) {r : Int} (hr : Hid (orL l = r)) (hL : Low W u) : Calls Try.prog 36 (#[v] ++ #[]) u fun e w' => ∃ v, e = .returned v ∧ Low W w' ∧ v = .int .i64 r := by
  refine (Or_f l v u hl hll r hr).mono ?_
  rintro e w' ⟨rfl, rfl⟩
  exact ⟨_, rfl, hL, rfl⟩

set_option maxRecDepth 10000 in
set_option maxHeartbeats 4000000 in
theorem outdoes_f (r b : Hr) (q : Bool) (w : World) (hq : Hid (btC r b = q)) :
    Calls Try.prog 24 #[hrV r, hrV b] w fun e w' => e = .returned (.bool q) ∧ Below w.heap.size w w' := by
  unfold hrV
  obtain ⟨z1, h1⟩ : ∃ z, cmpI r.N b.N = z := ⟨_, rfl⟩
  obtain ⟨z2, h2⟩ : ∃ z, cmpI b.X r.X = z := ⟨_, rfl⟩
  obtain ⟨z3, h3⟩ : ∃ z, cmpI b.Y r.Y = z := ⟨_, rfl⟩
  obtain ⟨z4, h4⟩ : ∃ z, orL [z1, z2, z3] = z := ⟨_, rfl⟩
  have HQ : Hid (decide (0 < z4) = q) := (by show _ = _; rw [← hq.out, ← or_bt, h1, h2, h3, h4])
  have H1 : Hid (cmpI r.N b.N = z1) := h1
  have H2 : Hid (cmpI b.X r.X = z2) := h2
  have H3 : Hid (cmpI b.Y r.Y = z3) := h3
  have H4 : Hid (orL [z1, z2, z3] = z4) := h4
  clear h1 h2 h3 h4 hq
  have hb1 := (Hbx.new w r).low ((Below.refl _ _).alloc (Nat.le_refl _) (.cells #[.int .i64 (b.X : Int), .int .i64 (b.Y : Int), .int .i64 (b.N : Int), .int .i64 (b.R : Int)] 34))
  have hb2 : Hbx ((w.alloc (.cells #[.int .i64 (r.X : Int), .int .i64 (r.Y : Int), .int .i64 (r.N : Int), .int .i64 (r.R : Int)] 34)).alloc (.cells #[.int .i64 (b.X : Int), .int .i64 (b.Y : Int), .int .i64 (b.N : Int), .int .i64 (b.R : Int)] 34)) (w.heap.size + 1) b := alloc_second w _ _
  have hB : Below w.heap.size w ((w.alloc (.cells #[.int .i64 (r.X : Int), .int .i64 (r.Y : Int), .int .i64 (r.N : Int), .int .i64 (r.R : Int)] 34)).alloc (.cells #[.int .i64 (b.X : Int), .int .i64 (b.Y : Int), .int .i64 (b.N : Int), .int .i64 (b.R : Int)] 34)) := ((Below.refl _ w).alloc (Nat.le_refl _) _).alloc (by simp) _
  obtain ⟨W, hW⟩ : ∃ W, (w.alloc (.cells #[.int .i64 (r.X : Int), .int .i64 (r.Y : Int), .int .i64 (r.N : Int), .int .i64 (r.R : Int)] 34)).alloc (.cells #[.int .i64 (b.X : Int), .int .i64 (b.Y : Int), .int .i64 (b.N : Int), .int .i64 (b.R : Int)] 34) = W := ⟨_, rfl⟩
  rw [hW] at hb1 hb2 hB
  have hcs : ∀ u : World, Low W u → (u.cell? ⟨w.heap.size, 0, none⟩ = some (.int .i64 (r.X : Int)) ∧ u.cell? ⟨w.heap.size, 1, none⟩ = some (.int .i64 (r.Y : Int)) ∧ u.cell? ⟨w.heap.size, 2, none⟩ = some (.int .i64 (r.N : Int))) ∧ u.cell? ⟨w.heap.size + 1, 0, none⟩ = some (.int .i64 (b.X : Int)) ∧ u.cell? ⟨w.heap.size + 1, 1, none⟩ = some (.int .i64 (b.Y : Int)) ∧ u.cell? ⟨w.heap.size + 1, 2, none⟩ = some (.int .i64 (b.N : Int)) := fun u hu => by
    obtain ⟨t0, t1, t2, _⟩ := (hb1.low hu).cells
    obtain ⟨t4, t5, t6, _⟩ := (hb2.low hu).cells
    exact ⟨⟨t0, t1, t2⟩, t4, t5, t6⟩
  go_enter Try.func24, Try.ntmps24
  go_wp2_with fail
  clear hW
  refine wp_region_noPanic ?_
  refine wp_region_held_drew (S := fun u => Low W u) (by kernel_rfl) (Below.dN (Below.refl _ W) 1) (fun hHeld => ?_)
  refine go_take 0 5 _ (.pointer (some ⟨w.heap.size, 2, none⟩)) rfl (by kernel_rfl) (by kernel_rfl) (by kernel_rfl) (by kernel_rfl) (fun _ _ _ h => h) (Or.inl ⟨by kernel_rfl, fun u hu => by kernel_rfl⟩) hHeld ?_
  simp only [Act.put, List.setIfInBounds_toArray, List.set_cons_zero, List.set_cons_succ]
  refine go_take 1 6 _ (.int .i64 (r.N : Int)) rfl (by kernel_rfl) (by kernel_rfl) (by kernel_rfl) (by kernel_rfl) (fun _ _ _ h => h) (Or.inl ⟨by kernel_rfl, fun u hu => load_int (hcs u hu).1.2.2 (.tmp 5) (by kernel_rfl) (by kernel_rfl)⟩) hHeld ?_
  simp only [Act.put, List.setIfInBounds_toArray, List.set_cons_zero, List.set_cons_succ]
  refine go_take 2 7 _ (.pointer (some ⟨w.heap.size + 1, 2, none⟩)) rfl (by kernel_rfl) (by kernel_rfl) (by kernel_rfl) (by kernel_rfl) (fun _ _ _ h => h) (Or.inl ⟨by kernel_rfl, fun u hu => by kernel_rfl⟩) hHeld ?_
  simp only [Act.put, List.setIfInBounds_toArray, List.set_cons_zero, List.set_cons_succ]
  refine go_take 3 8 _ (.int .i64 (b.N : Int)) rfl (by kernel_rfl) (by kernel_rfl) (by kernel_rfl) (by kernel_rfl) (fun _ _ _ h => h) (Or.inl ⟨by kernel_rfl, fun u hu => load_int (hcs u hu).2.2.2 (.tmp 7) (by kernel_rfl) (by kernel_rfl)⟩) hHeld ?_
  simp only [Act.put, List.setIfInBounds_toArray, List.set_cons_zero, List.set_cons_succ]
  refine go_take 5 10 _ (.pointer (some ⟨w.heap.size + 1, 0, none⟩)) rfl (by kernel_rfl) (by kernel_rfl) (by kernel_rfl) (by kernel_rfl) (fun _ _ _ h => h) (Or.inl ⟨by kernel_rfl, fun u hu => by kernel_rfl⟩) hHeld ?_
  simp only [Act.put, List.setIfInBounds_toArray, List.set_cons_zero, List.set_cons_succ]
  refine go_take 6 11 _ (.int .i64 (b.X : Int)) rfl (by kernel_rfl) (by kernel_rfl) (by kernel_rfl) (by kernel_rfl) (fun _ _ _ h => h) (Or.inl ⟨by kernel_rfl, fun u hu => load_int (hcs u hu).2.1 (.tmp 10) (by kernel_rfl) (by kernel_rfl)⟩) hHeld ?_
  simp only [Act.put, List.setIfInBounds_toArray, List.set_cons_zero, List.set_cons_succ]
  refine go_take 7 12 _ (.pointer (some ⟨w.heap.size, 0, none⟩)) rfl (by kernel_rfl) (by kernel_rfl) (by kernel_rfl) (by kernel_rfl) (fun _ _ _ h => h) (Or.inl ⟨by kernel_rfl, fun u hu => by kernel_rfl⟩) hHeld ?_
  simp only [Act.put, List.setIfInBounds_toArray, List.set_cons_zero, List.set_cons_succ]
  refine go_take 8 13 _ (.int .i64 (r.X : Int)) rfl (by kernel_rfl) (by kernel_rfl) (by kernel_rfl) (by kernel_rfl) (fun _ _ _ h => h) (Or.inl ⟨by kernel_rfl, fun u hu => load_int (hcs u hu).1.1 (.tmp 12) (by kernel_rfl) (by kernel_rfl)⟩) hHeld ?_
  simp only [Act.put, List.setIfInBounds_toArray, List.set_cons_zero, List.set_cons_succ]
  refine go_take 10 15 _ (.pointer (some ⟨w.heap.size + 1, 1, none⟩)) rfl (by kernel_rfl) (by kernel_rfl) (by kernel_rfl) (by kernel_rfl) (fun _ _ _ h => h) (Or.inl ⟨by kernel_rfl, fun u hu => by kernel_rfl⟩) hHeld ?_
  simp only [Act.put, List.setIfInBounds_toArray, List.set_cons_zero, List.set_cons_succ]
  refine go_take 11 16 _ (.int .i64 (b.Y : Int)) rfl (by kernel_rfl) (by kernel_rfl) (by kernel_rfl) (by kernel_rfl) (fun _ _ _ h => h) (Or.inl ⟨by kernel_rfl, fun u hu => load_int (hcs u hu).2.2.1 (.tmp 15) (by kernel_rfl) (by kernel_rfl)⟩) hHeld ?_
  simp only [Act.put, List.setIfInBounds_toArray, List.set_cons_zero, List.set_cons_succ]
  refine go_take 12 17 _ (.pointer (some ⟨w.heap.size, 1, none⟩)) rfl (by kernel_rfl) (by kernel_rfl) (by kernel_rfl) (by kernel_rfl) (fun _ _ _ h => h) (Or.inl ⟨by kernel_rfl, fun u hu => by kernel_rfl⟩) hHeld ?_
  simp only [Act.put, List.setIfInBounds_toArray, List.set_cons_zero, List.set_cons_succ]
  refine go_take 13 18 _ (.int .i64 (r.Y : Int)) rfl (by kernel_rfl) (by kernel_rfl) (by kernel_rfl) (by kernel_rfl) (fun _ _ _ h => h) (Or.inl ⟨by kernel_rfl, fun u hu => load_int (hcs u hu).1.2.1 (.tmp 17) (by kernel_rfl) (by kernel_rfl)⟩) hHeld ?_
  simp only [Act.put, List.setIfInBounds_toArray, List.set_cons_zero, List.set_cons_succ]
  refine go_callE 4 9 _ rfl (by kernel_rfl) (by kernel_rfl) (by kernel_rfl) 37 (.func 37) #[.tmp 6, .tmp 8] #[3, 3] (by kernel_rfl) #[] (by kernel_rfl) #[.int .i64 (r.N : Int), .int .i64 (b.N : Int)] (by kernel_rfl) (enters_of Try.func37 (by kernel_rfl) rfl) _ (compare_held H1 hHeld) ?_
  rintro _ u4 hHeld rfl
  simp only [Act.put, List.setIfInBounds_toArray, List.set_cons_zero, List.set_cons_succ]
  refine go_callE 9 14 _ rfl (by kernel_rfl) (by kernel_rfl) (by kernel_rfl) 37 (.func 37) #[.tmp 11, .tmp 13] #[3, 3] (by kernel_rfl) #[] (by kernel_rfl) #[.int .i64 (b.X : Int), .int .i64 (r.X : Int)] (by kernel_rfl) (enters_of Try.func37 (by kernel_rfl) rfl) _ (compare_held H2 hHeld) ?_
  rintro _ u9 hHeld rfl
  simp only [Act.put, List.setIfInBounds_toArray, List.set_cons_zero, List.set_cons_succ]
  refine go_callE 14 19 _ rfl (by kernel_rfl) (by kernel_rfl) (by kernel_rfl) 37 (.func 37) #[.tmp 16, .tmp 18] #[3, 3] (by kernel_rfl) #[] (by kernel_rfl) #[.int .i64 (b.Y : Int), .int .i64 (r.Y : Int)] (by kernel_rfl) (enters_of Try.func37 (by kernel_rfl) rfl) _ (compare_held H3 hHeld) ?_
  rintro _ u14 hHeld rfl
  simp only [Act.put, List.setIfInBounds_toArray, List.set_cons_zero, List.set_cons_succ]
  refine go_val 15 20 _ rfl (by kernel_rfl) (by kernel_rfl) (by kernel_rfl) (.slice (some ⟨u14.heap.size, 0, none⟩) 3 3) (u14.alloc (.cells #[.int .i64 z1, .int .i64 z2, .int .i64 z3] 3)) (by kernel_rfl) (Below.alloc hHeld (Below.size hHeld) _) ?_
  simp only [Act.put, List.setIfInBounds_toArray, List.set_cons_zero, List.set_cons_succ]
  have hHeld2 : Low W (u14.alloc (.cells #[.int .i64 z1, .int .i64 z2, .int .i64 z3] 3)) := Below.alloc hHeld (Below.size hHeld) _
  refine go_callE 16 21 _ rfl (by kernel_rfl) (by kernel_rfl) (by kernel_rfl) 36 (.func 36) #[.tmp 20] #[22] (by kernel_rfl) #[] (by kernel_rfl) #[.slice (some ⟨u14.heap.size, 0, none⟩) 3 3] (by kernel_rfl) (enters_of Try.func36 (by kernel_rfl) rfl) _ (or_held [z1, z2, z3] (new_holds u14 _ _ 3 3 (by decide)) (by simp) H4 hHeld2) ?_
  rintro _ u16 hHeld rfl
  simp only [Act.put, List.setIfInBounds_toArray, List.set_cons_zero, List.set_cons_succ]
  refine go_take 17 22 _ (.bool q) rfl (by kernel_rfl) (by kernel_rfl) (by kernel_rfl) (by kernel_rfl) (fun _ _ _ h => h) (Or.inl ⟨by kernel_rfl, fun u hu => by rw [← HQ.out]; kernel_rfl⟩) hHeld ?_
  simp only [Act.put, List.setIfInBounds_toArray, List.set_cons_zero, List.set_cons_succ]
  refine go_take 18 4 _ (.bool q) rfl (by kernel_rfl) (by kernel_rfl) (by kernel_rfl) (by kernel_rfl) (fun _ _ _ h => h) (Or.inl ⟨by kernel_rfl, fun u hu => by kernel_rfl⟩) hHeld ?_
  simp only [Act.put, List.setIfInBounds_toArray, List.set_cons_zero, List.set_cons_succ]
  refine wpAnyH_done (by kernel_rfl) ?_ _
  refine NoPanic.normal ?_
  have hB2 := hB.trans (Below.mono hHeld hB.size)
  go_wp2
  go_ret
  exact ⟨rfl, hB2⟩
end Go.Proofs.Ytmhanngimmjmoab

/- Going back along a run: plain. Steps of a region, by their equations. -/
namespace Go.Proofs.Ytmhanngimmjmoab
open Go.RowKit

theorem tl_fr (x y : List Int) : ∀ i j, i ≤ x.length → j ≤ y.length → tl x y i j = fr (x.drop i) (y.drop j) := by
  intro i j
  induction h : x.length - i generalizing i j with
  | zero =>
    intro h1 h2
    rw [tl_step, if_neg (by omega), List.drop_of_length_le (by omega)]
    simp [fr]
  | succ n ih =>
    intro h1 h2
    by_cases hy : j < y.length
    · rw [tl_step, List.drop_eq_getElem_cons (by omega : i < x.length), List.drop_eq_getElem_cons hy, fr, List.getElem?_eq_getElem (by omega), List.getElem?_eq_getElem hy]
      by_cases e : x[i] = y[j]
      · rw [if_pos ⟨by omega, hy, by rw [e]⟩, if_pos e, ih (i + 1) (j + 1) (by omega) (by omega) (by omega)]
      · rw [if_neg (fun q => e (by simpa using q.2.2)), if_neg e]
    · rw [tl_step, if_neg (by omega), List.drop_of_length_le (l := y) (by omega)]
      cases x.drop i <;> simp [fr]
/-- what is left of the candidates: of member i those from place k on, and all behind it -/
def restC (x y : List Int) (R i k : Nat) : List Hr := ((pj x y R i).drop k).flatMap (ck x y R i) ++ (List.range' (i + 1) (x.length - (i + 1))).flatMap fun i => (pj x y R i).flatMap (ck x y R i)
def restI (x y : List Int) (R i : Nat) : List Hr := (List.range' i (x.length - i)).flatMap fun i => (pj x y R i).flatMap (ck x y R i)
theorem restI_zero (x y : List Int) (R : Nat) : restI x y R 0 = cands x y R := by simp [restI, cands]
theorem restI_step (x y : List Int) (R i : Nat) (hi : i < x.length) : restI x y R i = restC x y R i 0 := by
  unfold restI restC
  rw [show x.length - i = (x.length - (i + 1)) + 1 by omega, List.range'_succ, List.flatMap_cons, List.drop_zero]
theorem restI_end (x y : List Int) (R i : Nat) (hi : x.length ≤ i) : restI x y R i = [] := by
  unfold restI
  rw [show x.length - i = 0 by omega]
  rfl
theorem restC_step (x y : List Int) (R i k : Nat) (hk : k < (pj x y R i).length) : restC x y R i k = ck x y R i (pj x y R i)[k] ++ restC x y R i (k + 1) := by
  unfold restC
  rw [List.drop_eq_getElem_cons hk, List.flatMap_cons, List.append_assoc]
theorem restC_end (x y : List Int) (R i k : Nat) (hk : (pj x y R i).length ≤ k) : restC x y R i k = restI x y R (i + 1) := by
  unfold restC restI
  rw [List.drop_of_length_le hk]
  rfl
theorem pickL_append (f : Hr → Hr → Bool) (b : Hr) (l m : List Hr) : pickL f b (l ++ m) = pickL f (pickL f b l) m := by simp [pickL]
/-- one candidate -/
theorem pick_ck (x y : List Int) (R i j : Nat) (b : Hr) (h : skp x R i (hd x y i j) = false) : pickL btC b (ck x y R i j) = if btC (runAt x y i j R) b then runAt x y i j R else b := by
  unfold ck
  rw [h]
  rfl
theorem pick_skip (x y : List Int) (R i j : Nat) (b : Hr) (h : skp x R i (hd x y i j) = true) : pickL btC b (ck x y R i j) = b := by
  unfold ck
  rw [h]
  rfl
theorem skp_true {x : List Int} {R i t s : Nat} (hs : s < t) (h : cnt x (i - (s + 1)) = R) : skp x R i t = true := by
  unfold skp
  rw [List.any_eq_true]
  exact ⟨s, List.mem_range.2 hs, by simpa using h⟩
theorem skp_false {x : List Int} {R i t : Nat} (h : ∀ s, s < t → cnt x (i - (s + 1)) ≠ R) : skp x R i t = false := by
  unfold skp
  rw [List.any_eq_false]
  intro s hs
  simpa using h s (List.mem_range.1 hs)
/-- a member that both texts have is one of the rarest just if it has partners -/
theorem pj_pos {x y : List Int} {R i j : Nat} (hj : j < y.length) (he : x[i]? = y[j]?) : 0 < (pj x y R i).length ↔ cnt x i = R := by
  rw [List.length_pos_iff_exists_mem]
  constructor
  · rintro ⟨k, hk⟩
    exact ((mem_pj x y R i k).1 hk).1
  · intro h
    exact ⟨j, (mem_pj x y R i j).2 ⟨h, hj, he⟩⟩

theorem exec_slF {u : World} {ao : Option Addr} {n cap k : Nat} (hk : k ≤ n) (hn : n ≤ cap) {op : Oper} (x l : Operand) (ho : op.op = .slice 22 x (some l) none none) {ev : Operand → Value} (hx : ev x = .slice ao n cap) (hl : ev l = .int .i64 (k : Int)) :
    (execOp ev op).run Try.prog u = .ok (.value (.slice (slF ao cap k) (n - k) (cap - k))) u := by
  have h := run_slF ao n cap k hk hn u
  have h2 := run_sliceAt_slice (P := Try.prog) (w := u) 22 (.slice ao n cap) (some (.int .i64 (k : Int))) none none (by kernel_rfl)
  simp only [execOp, ho, hx, hl, Option.map_some, Option.map_none, Sem.run_bind, h2, h, Result.andThen_ok, Sem.run_pure]
theorem exec_sub {u : World} {p q r : Int} (h : IntKind.i64.wrap (p - q) = r) {op : Oper} (x l : Operand) (ho : op.op = .binOp .sub 3 x l 3) {ev : Operand → Value} (hx : ev x = .int .i64 p) (hl : ev l = .int .i64 q) :
    (execOp ev op).run Try.prog u = .ok (.value (.int .i64 r)) u := by
  subst h
  simp only [execOp, ho, hx, hl]
  go_simp
theorem exec_add {u : World} {p q r : Int} (h : IntKind.i64.wrap (p + q) = r) {op : Oper} (x l : Operand) (ho : op.op = .binOp .add 3 x l 3) {ev : Operand → Value} (hx : ev x = .int .i64 p) (hl : ev l = .int .i64 q) :
    (execOp ev op).run Try.prog u = .ok (.value (.int .i64 r)) u := by
  subst h
  simp only [execOp, ho, hx, hl]
  go_simp
theorem exec_store {u : World} {a : Addr} {z z0 : Int} (h : u.cell? a = some (.int .i64 z0)) (hf : u.frozen? a = false) {op : Oper} (x l : Operand) (ho : op.op = .store 3 x l) {ev : Operand → Value} (hx : ev x = .pointer (some a)) (hl : ev l = .int .i64 z) :
    (execOp ev op).run Try.prog u = .ok .skip (u.setCell a (.int .i64 z)) := by
  simp only [execOp, ho, hx, hl]
  go_simp
theorem results_cell_tmp {P : Program} {fn : Func} {p q : Tmp} {ty : TypeId} (h : fn.results = #[.cell p ty, .tmp q]) (tmps : Array Value) (w : World) (g : Nat) (t : TypeId) (cs : Array Value) (fr : Nat × Nat) (d : TypeDesc)
    (hp : tmps.getD p undef = .pointer (some ⟨g, 0, none⟩)) (hg : w.heap[g]? = some (.cells cs t fr))
    (hu : P.underlying ty = some d) (hd : (match d with | .struct _ | .array _ _ => true | _ => false) = true) (hi : (P.info? ty).map (·.size) = some cs.size) :
    (results fn tmps).run P w = .ok (.tuple #[.agg cs, tmps.getD q undef]) w := by
  have hp' : tmps[p]?.getD undef = .pointer (some ⟨g, 0, none⟩) := by simpa using hp
  simp [results, h, hp', asAddr, run_loadVar_row w g t ty cs fr d hg hu hd hi]
end Go.Proofs.Ytmhanngimmjmoab

/- The run to hold on to: Best, walked. -/
namespace Go.Proofs.Ytmhanngimmjmoab
open Go.RowKit

/-- as it was, or the run is noted -/
def Sx (Wq : World) (Br X Y N R : Nat) (u : World) : Prop := Low Wq u ∨ (Hbx u Br ⟨X, Y, N, R⟩ ∧ Wq.grownBy u (some Br))
theorem Sx.x {Wq : World} {Br X Y N R : Nat} {u : World} (h : Sx Wq Br X Y N R u) (hb : Hbx Wq Br ⟨X, Y, 0, R⟩) : u.cell? ⟨Br, 0, none⟩ = some (.int .i64 (X : Int)) := by
  rcases h with h | h
  · exact (hb.low h).cells.1
  · exact h.1.cells.1
theorem same_held {x y : List Int} {vx vy : Value} {Wq u : World} {Br X Y N R : Nat} (hx : HI u vx x) (hy : HI u vy y) (hxl : x.length ≤ 1048576) {r : Nat} (hr : Hid (fr x y = r)) (hL : Low Wq u) :
    Calls Try.prog 23 (#[vx, vy] ++ #[]) u fun e w' => ∃ v, e = .returned v ∧ Sx Wq Br X Y N R w' ∧ (v = .int .i64 (r : Int) ∧ Low Wq w') := by
  refine (same_f x y vx vy u hx hy hxl r hr).mono ?_
  rintro e w' ⟨rfl, hb⟩
  have h2 : Low Wq w' := Below.trans hL (hb.mono (Below.size hL))
  exact ⟨_, rfl, .inl h2, rfl, h2⟩

set_option maxRecDepth 10000 in
set_option maxHeartbeats 1000000 in
theorem Best_none (x y : List Int) (vx vy : Value) (w : World) (hx : HI w vx x) (hy : HI w vy y) (hxl : x.length ≤ 1048576) (hyl : y.length ≤ 1048576) (hwx : ∀ c ∈ x, w64 c) (hwy : ∀ c ∈ y, w64 c) (h0 : Hid (rs x 0 y = 0)) :
    Calls Try.prog 10 #[vx, vy] w fun e w' => e = .returned (.tuple #[hrV ⟨0, 0, 0, 0⟩, .bool false]) ∧ Below w.heap.size w w' := by
  obtain ⟨xo, xc, rfl⟩ := Holds.form hx
  obtain ⟨yo, yc, rfl⟩ := Holds.form hy
  have hB0 : Below w.heap.size w (w.alloc (.cells #[.int .i64 0, .int .i64 0, .int .i64 0, .int .i64 0] 34)) := (Below.refl _ w).alloc (Nat.le_refl _) _
  have hR0 : Hbx (w.alloc (.cells #[.int .i64 0, .int .i64 0, .int .i64 0, .int .i64 0] 34)) w.heap.size ⟨0, 0, 0, 0⟩ := Hbx.new w ⟨0, 0, 0, 0⟩
  have HWX : Hid (∀ z ∈ x, w64 z) := hwx
  have HWY : Hid (∀ z ∈ y, w64 z) := hwy
  clear hwx hwy
  go_enter Try.func10, Try.ntmps10
  go_wp2_with fail
  refine (count_f x _ _ (HI.keep hx hB0 (Nat.le_refl _)) hxl HWX.out).mono ?_
  rintro e w1 ⟨Bc, rfl, hM1, hbc, hB1⟩
  have hB01 := hB0.trans (hB1.mono (by simp))
  have hR1 := hR0.low hB1
  clear hB1 hB0 hR0
  go_wp2_with fail
  refine (rarest_f x y Bc _ w1 hM1 (HI.keep hy hB01 (Nat.le_refl _)) hxl hyl HWY.out 0 h0).mono ?_
  rintro e w2 ⟨rfl, rfl⟩
  obtain ⟨c0, c1, c2, c3⟩ := hR1.cells
  have f0 := hR1.frozen
  have s1 := heap_setCell_same w1 w.heap.size 0 _ _ (.int .i64 0) hR1
  have s2 := heap_setCell_same _ w.heap.size 1 _ _ (.int .i64 0) s1
  have s3 := heap_setCell_same _ w.heap.size 2 _ _ (.int .i64 0) s2
  have s4 := heap_setCell_same _ w.heap.size 3 _ _ (.int .i64 0) s3
  have hBf : Below w.heap.size w ((((w1.setCell ⟨w.heap.size, 0, none⟩ (.int .i64 0)).setCell ⟨w.heap.size, 1, none⟩ (.int .i64 0)).setCell ⟨w.heap.size, 2, none⟩ (.int .i64 0)).setCell ⟨w.heap.size, 3, none⟩ (.int .i64 0)) := (((hB01.setCell (p := ⟨w.heap.size, 0, none⟩) (Nat.le_refl _) _).setCell (p := ⟨w.heap.size, 1, none⟩) (Nat.le_refl _) _).setCell (p := ⟨w.heap.size, 2, none⟩) (Nat.le_refl _) _).setCell (p := ⟨w.heap.size, 3, none⟩) (Nat.le_refl _) _
  go_wp2
  exact bodyPost_ret (results_cell_tmp rfl _ _ w.heap.size 34 #[.int .i64 0, .int .i64 0, .int .i64 0, .int .i64 0] (0, 0) _ rfl s4 Try.underlying34 rfl (by kernel_rfl)) rfl ⟨rfl, hBf⟩

set_option maxRecDepth 10000 in
set_option maxHeartbeats 8000000 in
theorem Best_some (x y : List Int) (vx vy : Value) (w : World) (hx : HI w vx x) (hy : HI w vy y) (hxl : x.length ≤ 1048576) (hyl : y.length ≤ 1048576) (hwx : ∀ c ∈ x, w64 c) (hwy : ∀ c ∈ y, w64 c) (R : Nat) (h0 : Hid (rs x 0 y = R)) (hR : 0 < R) (b : Hr) (hb : Hid (pickL btC ⟨0, 0, 0, 0⟩ (cands x y R) = b)) :
    Calls Try.prog 10 #[vx, vy] w fun e w' => e = .returned (.tuple #[hrV b, .bool true]) ∧ Below w.heap.size w w' := by
  obtain ⟨xo, xc, rfl⟩ := Holds.form hx
  obtain ⟨yo, yc, rfl⟩ := Holds.form hy
  have hcx := hold_cap hx
  have hcy := hold_cap hy
  have hRl : R ≤ x.length := by rw [← h0.out]; exact rs_le x y 0 (Nat.zero_le _)
  have hB0 : Below w.heap.size w (w.alloc (.cells #[.int .i64 0, .int .i64 0, .int .i64 0, .int .i64 0] 34)) := (Below.refl _ w).alloc (Nat.le_refl _) _
  have hR0 : Hbx (w.alloc (.cells #[.int .i64 0, .int .i64 0, .int .i64 0, .int .i64 0] 34)) w.heap.size ⟨0, 0, 0, 0⟩ := Hbx.new w ⟨0, 0, 0, 0⟩
  have HWX : Hid (∀ z ∈ x, w64 z) := hwx
  have HWY : Hid (∀ z ∈ y, w64 z) := hwy
  have HB0 : Hid (pickL btC ⟨0, 0, 0, 0⟩ (restI x y R 0) = b) := (by rw [restI_zero]; exact hb)
  clear hwx hwy hb
  have e0 : ((R : Int) == 0) = false := beq_eq_false_iff_ne.2 (by omega)
  go_enter Try.func10, Try.ntmps10
  go_wp2_with fail
  refine (count_f x _ _ (HI.keep hx hB0 (Nat.le_refl _)) hxl HWX.out).mono ?_
  rintro e w1 ⟨Bc, rfl, hM1, hbc, hB1⟩
  have hB01 := hB0.trans (hB1.mono (by simp))
  have hR1 := hR0.low hB1
  clear hB1 hB0 hR0
  go_wp2_with fail
  refine (rarest_f x y Bc _ w1 hM1 (HI.keep hy hB01 (Nat.le_refl _)) hxl hyl HWY.out R h0).mono ?_
  rintro e w2 ⟨rfl, rfl⟩
  go_wp2_with fail
  refine (hplaces_f x y R Bc _ w1 hM1 (HI.keep hy hB01 (Nat.le_refl _)) hyl HWY.out).mono ?_
  rintro e w3 ⟨rfl, hG3, hB3⟩
  have hB03 := hB01.trans (hB3.mono hB01.size)
  have hR3 := hR1.low hB3
  obtain ⟨base, hbase⟩ : ∃ base, w1.heap.size + 1 = base := ⟨_, rfl⟩
  rw [hbase] at hG3
  clear hB3 hB01 hR1 hM1 hbase
  go_wp2_with fail
  refine (partners_f x y R w1.heap.size base _ w3 hG3 (HI.keep hx hB03 (Nat.le_refl _)) hxl hyl HWX.out).mono ?_
  rintro e W1 ⟨vs, rfl, hO4, hP4, hB4⟩
  have hB04 := hB03.trans (hB4.mono hB03.size)
  have hR4 := hR3.low hB4
  obtain ⟨gp, hgp⟩ : ∃ gp, w3.heap.size = gp := ⟨_, rfl⟩
  rw [hgp] at hO4 ⊢
  clear hB4 hB03 hR3 hG3 hgp HWX HWY hbc
  have hBx := Hbx.new W1 ⟨0, 0, 0, 0⟩
  have hw1 := hB04.size
  have hr4 := hR4.lt
  go_wp2
  go_loopw [31] (fun iv wr => ∃ (i : Nat) (c : Hr), i ≤ x.length ∧ iv = .int .i64 i ∧ Low W1 wr ∧ Hbx wr W1.heap.size c ∧ Hid (pickL btC c (restI x y R i) = b)) (fun iv _ => x.length - (intOf iv).toNat)
  case atStart => exact ⟨0, ⟨0, 0, 0, 0⟩, Nat.zero_le _, rfl, (Below.refl _ W1).alloc (Nat.le_refl _) _, hBx, HB0⟩
  case round =>
    clear hBx HB0
    obtain ⟨i, c, hi, rfl, hL, hC, HB⟩ := hrel
    have hsr := Below.size hL
    by_cases hil : i < x.length
    · have HB2 : Hid (pickL btC c (restC x y R i 0) = b) := (by rw [← restI_step x y R i hil]; exact HB)
      obtain ⟨v, hv1, hv2⟩ := hP4.2 i hil
      obtain ⟨so, sc, rfl⟩ := (holds_of hv2.1).form
      have hvl := hP4.1
      have p0 := (owns_keep hO4 hL).cellAt i (by omega)
      rw [hv1] at p0
      obtain ⟨n2, hn2⟩ : ∃ n, (nI (pj x y R i)).length = n := ⟨_, rfl⟩
      have hv3 : Holds W1 (.slice so n2 sc) n2 (icells (nI (pj x y R i))) := by
        have := holds_of hv2.1
        rw [hn2] at this
        exact this
      have hn3 : (pj x y R i).length = n2 := by rw [← hn2]; simp [nI]
      have hn4 : n2 ≤ y.length := by rw [← hn3, ← pl_pj x y R i hil]; exact pl_le x R y _
      rw [hn2] at p0
      have HN : Hid (n2 = (pj x y R i).length) := hn3.symm
      clear hn2 hv2 hv1 HB hn3
      have i1 : 0 ≤ (i : Int) := by omega
      have i2 : (i : Int) < (x.length : Int) := by omega
      go_wp2
      go_step3
      go_wp2
      go_step3
      go_wp2
      clear p0
      go_loopw [38] (fun kv wq => ∃ (k : Nat) (c : Hr), k ≤ n2 ∧ kv = .int .i64 k ∧ Low W1 wq ∧ Hbx wq W1.heap.size c ∧ Hid (pickL btC c (restC x y R i k) = b)) (fun kv _ => n2 - (intOf kv).toNat)
      case atStart => exact ⟨0, c, Nat.zero_le _, rfl, hL, hC, HB2⟩
      case round =>
        clear HB2 hL hC hsr
        obtain ⟨k, c, hk, rfl, hL, hC, HB⟩ := hrel
        have hsr := Below.size hL
        by_cases hkl : k < n2
        · have hkp : k < (pj x y R i).length := by rw [← HN.out]; exact hkl
          obtain ⟨j, hj⟩ : ∃ j, (pj x y R i)[k] = j := ⟨_, rfl⟩
          have hmj := (mem_pj x y R i j).1 (by rw [← hj]; exact List.getElem_mem _)
          obtain ⟨hcR, hjl, hxy⟩ := hmj
          have HB2 : Hid (pickL btC c (ck x y R i j ++ restC x y R i (k + 1)) = b) := (by rw [← hj, ← restC_step x y R i k hkp]; exact HB)
          obtain ⟨sb, sf, scc, hse, _, hcs⟩ := Holds.at (Holds.keep hv3 (fun q hq => Below.block hL q hq)) (by rw [icells_length]; simp [nI]; omega)
          cases hse
          have q0 : wr.cell? ⟨sb, sf + k, none⟩ = some (.int .i64 (j : Int)) := by
            rw [hcs k (by rw [icells_length]; simp [nI]; omega)]
            simp [icells, nI, hj]
          clear hcs hj HB
          have k1 : 0 ≤ (k : Int) := by omega
          have k2 : (k : Int) < (n2 : Int) := by omega
          have hRn := Hbx.new wr ⟨i, j, 0, R⟩
          obtain ⟨Br, hBr⟩ : ∃ Br, wr.heap.size = Br := ⟨_, rfl⟩
          rw [hBr] at hRn
          have hLn : Low W1 (wr.alloc (.cells #[.int .i64 (i : Int), .int .i64 (j : Int), .int .i64 ((0 : Nat) : Int), .int .i64 (R : Int)] 34)) := Below.alloc hL hsr _
          have hCn := hC.low ((Below.refl _ wr).alloc (Nat.le_refl _) (.cells #[.int .i64 (i : Int), .int .i64 (j : Int), .int .i64 ((0 : Nat) : Int), .int .i64 (R : Int)] 34))
          have hCl := hC.lt
          have HH0 : Hid (hd x y i j = 0 + hd x y (i - 0) (j - 0)) := (by show _ = _; simp)
          go_wp2
          have hBrl : Br < wr.heap.size + 1 := by omega
          clear q0
          go_loopw [] (fun wz => ∃ (s X Y : Nat), X + s = i ∧ Y + s = j ∧ Low W1 wz ∧ Hbx wz W1.heap.size c ∧ Hbx wz Br ⟨X, Y, 0, R⟩ ∧ Hid (hd x y i j = s + hd x y X Y) ∧ Hid (∀ s', s' < s → cnt x (i - (s' + 1)) ≠ R)) (fun wz => (intOf ((wz.cell? ⟨Br, 0, none⟩).getD undef)).toNat)
          case atStart => exact ⟨0, i, j, rfl, rfl, hLn, hCn, hRn, HH0, fun s' hs' => by omega⟩
          case round =>
            clear hRn hLn hCn HH0 hL hC
            have hBw : W1.heap.size < Br := by omega
            clear hBr hBrl hCl hsr
            obtain ⟨s, X, Y, hX, hY, hL, hC, hH, HH, HS⟩ := hrel
            have hsz := Below.size hL
            obtain ⟨c0, c1, c2, c3⟩ := hH.cells
            have hB0z := hB04.trans (Below.mono hL hw1)
            obtain ⟨q, hq⟩ : ∃ q, decide (0 < X ∧ 0 < Y ∧ x[X - 1]? = y[Y - 1]?) = q := ⟨_, rfl⟩
            have HQ : Hid (decide (0 < X ∧ 0 < Y ∧ x[X - 1]? = y[Y - 1]?) = q) := hq
            clear hq
            go_wp2_with fail
            go_cut [68] from 46 to 83 (fun z wc => z = .bool q ∧ ∃ m, wc = wr.drewN m)
            case first =>
              by_cases hX0 : 0 < X
              · obtain ⟨px, rfl⟩ : ∃ p, X = p + 1 := ⟨X - 1, by omega⟩
                have g1 : decide ((0 : Int) < ((px + 1 : Nat) : Int)) = true := decide_eq_true (by omega)
                have g1' : (0 : Int) < (px : Int) + 1 := by omega
                by_cases hY0 : 0 < Y
                · obtain ⟨py, rfl⟩ : ∃ p, Y = p + 1 := ⟨Y - 1, by omega⟩
                  have g2' : (0 : Int) < (py : Int) + 1 := by omega
                  obtain ⟨xb, xf, rfl, _, hqx⟩ := HI.at (HI.keep hx hB0z (Nat.le_refl _)) (by omega)
                  obtain ⟨yb, yf, rfl, _, hqy⟩ := HI.at (HI.keep hy hB0z (Nat.le_refl _)) (by omega)
                  have x0 := hqx px (by omega)
                  have y0 := hqy py (by omega)
                  obtain ⟨zx, hzx⟩ : ∃ z, x[px] = z := ⟨_, rfl⟩
                  obtain ⟨zy, hzy⟩ : ∃ z, y[py] = z := ⟨_, rfl⟩
                  rw [hzx] at x0
                  rw [hzy] at y0
                  have e9 : (zx == zy) = q := by
                    rw [← HQ.out, Nat.add_sub_cancel, Nat.add_sub_cancel, List.getElem?_eq_getElem (by omega), List.getElem?_eq_getElem (by omega), hzx, hzy]
                    by_cases q : zx = zy <;> simp [q]
                  have n1 : IntKind.i64.wrap ((px : Int) + 1 - 1) = (px : Int) := by rw [IntKind.wrap_i64]; omega
                  have n2 : IntKind.i64.wrap ((py : Int) + 1 - 1) = (py : Int) := by rw [IntKind.wrap_i64]; omega
                  have n3 : IntKind.i64.wrap (px : Int) = (px : Int) := by rw [IntKind.wrap_i64]; omega
                  have n4 : IntKind.i64.wrap (py : Int) = (py : Int) := by rw [IntKind.wrap_i64]; omega
                  have n5 : (px : Int) + 1 - 1 = (px : Int) := by omega
                  have n6 : (py : Int) + 1 - 1 = (py : Int) := by omega
                  have j1 : 0 ≤ (px : Int) := by omega
                  have j2 : (px : Int) < (x.length : Int) := by omega
                  have j3 : 0 ≤ (py : Int) := by omega
                  have j4 : (py : Int) < (y.length : Int) := by omega
                  clear hqx hqy hzx hzy HQ HH HS
                  go_big_quiet (fail)
                  go_wp2
                  go_meet
                  case rel => exact ⟨rfl, _, rfl⟩
                · obtain rfl : Y = 0 := by omega
                  obtain rfl : q = false := by rw [← HQ.out]; simp
                  clear HQ HH HS
                  go_big_quiet (fail)
                  go_wp2
                  go_meet
                  case rel => exact ⟨rfl, _, rfl⟩
              · obtain rfl : X = 0 := by omega
                obtain rfl : q = false := by rw [← HQ.out]; simp
                clear HQ HH HS
                go_big_quiet (fail)
                go_wp2
                go_meet
                case rel => exact ⟨rfl, _, rfl⟩
            case rest =>
              obtain ⟨rfl, mq, rfl⟩ := hcut
              have hLq : Low W1 (wr.drewN mq) := Below.dN hL mq
              have hCq : Hbx (wr.drewN mq) W1.heap.size c := hC
              have hHq : Hbx (wr.drewN mq) Br ⟨X, Y, 0, R⟩ := hH
              have cw := c0
              clear hL hC hH c0 c1 c2 c3 hB0z hsz
              generalize wr.drewN mq = Wq at hLq hCq hHq ⊢
              obtain ⟨c0, c1, c2, c3⟩ := hHq.cells
              have fz := hHq.frozen
              have hsz := Below.size hLq
              cases q with
              | true =>
                obtain ⟨hX0, hY0, hxy2⟩ := of_decide_eq_true HQ.out
                obtain ⟨px, rfl⟩ : ∃ p, X = p + 1 := ⟨X - 1, by omega⟩
                obtain ⟨py, rfl⟩ : ∃ p, Y = p + 1 := ⟨Y - 1, by omega⟩
                rw [Nat.add_sub_cancel, Nat.add_sub_cancel] at hxy2
                have HH2 : Hid (hd x y i j = s + 1 + hd x y px py) := (by
                  show _ = _
                  have := HH.out
                  rw [hd_step x y (px + 1) (py + 1), if_pos ⟨by omega, by omega, by rw [Nat.add_sub_cancel, Nat.add_sub_cancel]; exact hxy2⟩, Nat.add_sub_cancel, Nat.add_sub_cancel] at this
                  omega)
                have hpx : i - (s + 1) = px := by omega
                obtain ⟨v2, hv1, hv2⟩ := hP4.2 px (by omega)
                obtain ⟨pto, ptc, rfl⟩ := (holds_of hv2.1).form
                have hpp := pj_pos (x := x) (y := y) (R := R) (i := px) (j := py) (by omega) hxy2
                have hn9 : (nI (pj x y R px)).length = (pj x y R px).length := by simp [nI]
                rw [hn9] at hv1
                obtain ⟨n9, hn8⟩ : ∃ n, (pj x y R px).length = n := ⟨_, rfl⟩
                rw [hn8] at hv1 hpp
                have hvl2 := hP4.1
                have hb1 := heap_setCell_same Wq Br 0 _ _ (.int .i64 (px : Int)) hHq
                have hb2 : Hbx ((Wq.setCell ⟨Br, 0, none⟩ (.int .i64 (px : Int))).setCell ⟨Br, 1, none⟩ (.int .i64 (py : Int))) Br ⟨px, py, 0, R⟩ := heap_setCell_same _ Br 1 _ _ (.int .i64 (py : Int)) hb1
                have hg2 : Wq.grownBy ((Wq.setCell ⟨Br, 0, none⟩ (.int .i64 (px : Int))).setCell ⟨Br, 1, none⟩ (.int .i64 (py : Int))) (some Br) := (grown_set Wq Br 0 _).trans (grown_set _ Br 1 _)
                have hL2 : Low W1 ((Wq.setCell ⟨Br, 0, none⟩ (.int .i64 (px : Int))).setCell ⟨Br, 1, none⟩ (.int .i64 (py : Int))) := Below.grown hLq hg2 hsz (fun q hq => by cases hq; omega)
                have hC2 := hCq.keep hg2 (by simp; omega)
                have p0 := (owns_keep hO4 hL2).cellAt px (by omega)
                rw [hv1] at p0
                obtain ⟨d0, d1, d2, d3⟩ := hb2.cells
                have cm : ((Wq.setCell ⟨Br, 0, none⟩ (.int .i64 (px : Int))).setCell ⟨Br, 1, none⟩ (.int .i64 (py : Int))).cell? ⟨Br, 0, none⟩ = some (.int .i64 (px : Int)) := d0
                have c1s : (Wq.setCell ⟨Br, 0, none⟩ (.int .i64 (px : Int))).cell? ⟨Br, 1, none⟩ = some (.int .i64 ((py : Int) + 1)) := by
                  have : Hbx (Wq.setCell ⟨Br, 0, none⟩ (.int .i64 (px : Int))) Br ⟨px, py + 1, 0, R⟩ := hb1
                  exact this.cells.2.1
                have c0s : Wq.cell? ⟨Br, 0, none⟩ = some (.int .i64 ((px : Int) + 1)) := c0
                have c1t : Wq.cell? ⟨Br, 1, none⟩ = some (.int .i64 ((py : Int) + 1)) := c1
                have f1s : (Wq.setCell ⟨Br, 0, none⟩ (.int .i64 (px : Int))).frozen? ⟨Br, 1, none⟩ = false := by
                  have : Hbx (Wq.setCell ⟨Br, 0, none⟩ (.int .i64 (px : Int))) Br ⟨px, py + 1, 0, R⟩ := hb1
                  exact this.frozen 1
                have f0s := fz 0
                have n5 : (px : Int) + 1 - 1 = (px : Int) := by omega
                have n6 : (py : Int) + 1 - 1 = (py : Int) := by omega
                have j1 : 0 ≤ (px : Int) := by omega
                have j2 : (px : Int) < (x.length : Int) := by omega
                clear c0 c1 c2 c3 fz hv1 hv2 hn8 hn9 hb1 HH HQ d1 d2 d3 hHq hCq hLq hg2
                by_cases hc : cnt x px = R
                · have hn0 : 0 < n9 := hpp.2 hc
                  have hn0' : (0 : Int) < (n9 : Int) := by omega
                  have HB3 : Hid (pickL btC c (restC x y R i (k + 1)) = b) := (by
                    show _ = _
                    rw [← HB2.out, pickL_append, pick_skip x y R i j c (skp_true (s := s) (by rw [HH2.out]; omega) (by rw [hpx]; exact hc))]
                    )
                  clear HB2 hpp hc hpx
                  go_wp2
                  go_roundw
                  case rel => exact ⟨k + 1, c, by omega, by go_num, hL2, hC2, HB3⟩
                  case measure => simp [intOf]; omega
                · have hn0 : n9 = 0 := by
                    rcases Nat.eq_zero_or_pos n9 with h | h
                    · exact h
                    · exact absurd (hpp.1 h) hc
                  subst hn0
                  have HS2 : Hid (∀ s', s' < s + 1 → cnt x (i - (s' + 1)) ≠ R) := (by
                    intro s' hs'
                    by_cases e : s' = s
                    · subst e; rw [hpx]; exact hc
                    · exact HS.out s' (by omega))
                  clear hpp hc hpx HS
                  go_wp2
                  go_roundw
                  case rel => exact ⟨s + 1, px, py, by omega, by omega, hL2, hC2, hb2, HH2, HS2⟩
                  case measure =>
                    rw [cw, cm]
                    simp [intOf]
              | false =>
                have hnq := of_decide_eq_false HQ.out
                have hhd : hd x y i j = s := by
                  have := HH.out
                  rw [hd_step x y X Y, if_neg hnq] at this
                  omega
                obtain ⟨t, ht⟩ : ∃ t, tl x y i j = t := ⟨_, rfl⟩
                obtain ⟨N, hN⟩ : ∃ N, s + t = N := ⟨_, rfl⟩
                have HSk : Hid (skp x R i (hd x y i j) = false) := skp_false (by rw [hhd]; exact HS.out)
                have HRun : Hid (runAt x y i j R = ⟨X, Y, N, R⟩) := (by
                  show _ = _
                  unfold runAt
                  rw [hhd, ht, hN, show i - s = X by omega, show j - s = Y by omega])
                have htl := tl_le x y i j
                rw [ht] at htl
                have HTL : Hid (fr (x.drop i) (y.drop j) = t) := (by show _ = _; rw [← tl_fr x y i j (by omega) (by omega)]; exact ht)
                have HXl : Hid ((x.drop i).length ≤ 1048576) := (by show _ ≤ _; simp; omega)
                have hBw : Below w.heap.size w (Wq.drewN 1) := Below.dN (hB04.trans (Below.mono hLq hw1)) 1
                have hxs : HI (Wq.drewN 1) (.slice (slF xo xc i) (x.length - i) (xc - i)) (x.drop i) ∧ HI (Wq.drewN 1) (.slice (slF yo yc j) (y.length - j) (yc - j)) (y.drop j) := by
                  have h1 := hold_from (HI.keep hx hBw (Nat.le_refl _)) rfl (Nat.le_of_lt hil)
                  have h2 := hold_from (HI.keep hy hBw (Nat.le_refl _)) rfl (Nat.le_of_lt hjl)
                  unfold HI
                  rw [List.length_drop, List.length_drop]
                  exact ⟨h1, h2⟩
                have n1 : IntKind.i64.wrap ((i : Int) - (X : Int)) = (s : Int) := by rw [IntKind.wrap_i64]; omega
                have n2 : IntKind.i64.wrap ((s : Int) + (t : Int)) = (N : Int) := by rw [IntKind.wrap_i64]; omega
                have hHb := hHq
                clear HH HQ HS hnq hhd ht hN c0 c1 c2 c3 fz cw
                go_wp2_with fail
                refine wp_region_noPanic ?_
                refine wp_region_held_drew (S := fun u => Sx Wq Br X Y N R u) (by kernel_rfl) (.inl (Below.dN (Below.refl _ Wq) 1)) (fun hHeld => ?_)
                refine go_take 0 84 _ (.int .i64 (i : Int)) rfl (by kernel_rfl) (by kernel_rfl) (by kernel_rfl) (by kernel_rfl) (fun _ _ _ h => h) (Or.inl ⟨by kernel_rfl, fun u hu => by kernel_rfl⟩) hHeld ?_
                simp only [Act.put, List.setIfInBounds_toArray, List.set_cons_zero, List.set_cons_succ]
                refine go_take 1 85 _ (.pointer (some ⟨Br, 0, none⟩)) rfl (by kernel_rfl) (by kernel_rfl) (by kernel_rfl) (by kernel_rfl) (fun _ _ _ h => h) (Or.inl ⟨by kernel_rfl, fun u hu => by kernel_rfl⟩) hHeld ?_
                simp only [Act.put, List.setIfInBounds_toArray, List.set_cons_zero, List.set_cons_succ]
                refine go_take 2 86 _ (.int .i64 (X : Int)) rfl (by kernel_rfl) (by kernel_rfl) (by kernel_rfl) (by kernel_rfl) (fun _ _ _ h => h) (Or.inl ⟨by kernel_rfl, fun u hu => load_int (hu.x hHb) (.tmp 85) (by kernel_rfl) (by kernel_rfl)⟩) hHeld ?_
                simp only [Act.put, List.setIfInBounds_toArray, List.set_cons_zero, List.set_cons_succ]
                refine go_take 3 87 _ (.int .i64 (s : Int)) rfl (by kernel_rfl) (by kernel_rfl) (by kernel_rfl) (by kernel_rfl) (fun _ _ _ h => h) (Or.inl ⟨by kernel_rfl, fun u hu => exec_sub n1 (.tmp 84) (.tmp 86) (by kernel_rfl) (by kernel_rfl) (by kernel_rfl)⟩) hHeld ?_
                simp only [Act.put, List.setIfInBounds_toArray, List.set_cons_zero, List.set_cons_succ]
                refine go_take 4 88 _ (.slice xo x.length xc) rfl (by kernel_rfl) (by kernel_rfl) (by kernel_rfl) (by kernel_rfl) (fun _ _ _ h => h) (Or.inl ⟨by kernel_rfl, fun u hu => by kernel_rfl⟩) hHeld ?_
                simp only [Act.put, List.setIfInBounds_toArray, List.set_cons_zero, List.set_cons_succ]
                refine go_take 5 89 _ (.int .i64 (i : Int)) rfl (by kernel_rfl) (by kernel_rfl) (by kernel_rfl) (by kernel_rfl) (fun _ _ _ h => h) (Or.inl ⟨by kernel_rfl, fun u hu => by kernel_rfl⟩) hHeld ?_
                simp only [Act.put, List.setIfInBounds_toArray, List.set_cons_zero, List.set_cons_succ]
                refine go_take 6 90 _ (.slice (slF xo xc i) (x.length - i) (xc - i)) rfl (by kernel_rfl) (by kernel_rfl) (by kernel_rfl) (by kernel_rfl) (fun _ _ _ h => h) (Or.inl ⟨by kernel_rfl, fun u hu => exec_slF (Nat.le_of_lt hil) hcx (.tmp 88) (.tmp 89) (by kernel_rfl) (by kernel_rfl) (by kernel_rfl)⟩) hHeld ?_
                simp only [Act.put, List.setIfInBounds_toArray, List.set_cons_zero, List.set_cons_succ]
                refine go_take 7 91 _ (.slice yo y.length yc) rfl (by kernel_rfl) (by kernel_rfl) (by kernel_rfl) (by kernel_rfl) (fun _ _ _ h => h) (Or.inl ⟨by kernel_rfl, fun u hu => by kernel_rfl⟩) hHeld ?_
                simp only [Act.put, List.setIfInBounds_toArray, List.set_cons_zero, List.set_cons_succ]
                refine go_take 8 92 _ (.int .i64 (j : Int)) rfl (by kernel_rfl) (by kernel_rfl) (by kernel_rfl) (by kernel_rfl) (fun _ _ _ h => h) (Or.inl ⟨by kernel_rfl, fun u hu => by kernel_rfl⟩) hHeld ?_
                simp only [Act.put, List.setIfInBounds_toArray, List.set_cons_zero, List.set_cons_succ]
                refine go_take 9 93 _ (.slice (slF yo yc j) (y.length - j) (yc - j)) rfl (by kernel_rfl) (by kernel_rfl) (by kernel_rfl) (by kernel_rfl) (fun _ _ _ h => h) (Or.inl ⟨by kernel_rfl, fun u hu => exec_slF (Nat.le_of_lt hjl) hcy (.tmp 91) (.tmp 92) (by kernel_rfl) (by kernel_rfl) (by kernel_rfl)⟩) hHeld ?_
                simp only [Act.put, List.setIfInBounds_toArray, List.set_cons_zero, List.set_cons_succ]
                refine go_callE 10 94 _ rfl (by kernel_rfl) (by kernel_rfl) (by kernel_rfl) 23 (.func 23) #[.tmp 90, .tmp 93] #[22, 22] (by kernel_rfl) #[] (by kernel_rfl) #[.slice (slF xo xc i) (x.length - i) (xc - i), .slice (slF yo yc j) (y.length - j) (yc - j)] (by kernel_rfl) (enters_of Try.func23 (by kernel_rfl) rfl) _ (same_held (N := N) (X := X) (Y := Y) (R := R) (Br := Br) hxs.1 hxs.2 HXl.out HTL (Below.dN (Below.refl _ Wq) 1)) ?_
                rintro _ u10 hHeld ⟨rfl, hL10⟩
                simp only [Act.put, List.setIfInBounds_toArray, List.set_cons_zero, List.set_cons_succ]
                refine go_take 11 95 _ (.int .i64 (N : Int)) rfl (by kernel_rfl) (by kernel_rfl) (by kernel_rfl) (by kernel_rfl) (fun _ _ _ h => h) (Or.inl ⟨by kernel_rfl, fun u hu => exec_add n2 (.tmp 87) (.tmp 94) (by kernel_rfl) (by kernel_rfl) (by kernel_rfl)⟩) hHeld ?_
                simp only [Act.put, List.setIfInBounds_toArray, List.set_cons_zero, List.set_cons_succ]
                refine go_take 12 96 _ (.pointer (some ⟨Br, 2, none⟩)) rfl (by kernel_rfl) (by kernel_rfl) (by kernel_rfl) (by kernel_rfl) (fun _ _ _ h => h) (Or.inl ⟨by kernel_rfl, fun u hu => by kernel_rfl⟩) hHeld ?_
                simp only [Act.put, List.setIfInBounds_toArray, List.set_cons_zero, List.set_cons_succ]
                have hHd := hHb.low hL10
                have hFin : Hbx (u10.setCell ⟨Br, 2, none⟩ (.int .i64 (N : Int))) Br ⟨X, Y, N, R⟩ := heap_setCell_same u10 Br 2 _ _ _ hHd
                have hGr : Wq.grownBy (u10.setCell ⟨Br, 2, none⟩ (.int .i64 (N : Int))) (some Br) := (low_grown hL10 (some Br)).trans (grown_set u10 Br 2 _)
                refine go_skip 13 _ rfl (by kernel_rfl) (by kernel_rfl) (by kernel_rfl) (u10.setCell ⟨Br, 2, none⟩ (.int .i64 (N : Int))) (exec_store hHd.cells.2.2.1 (hHd.frozen 2) (.tmp 96) (.tmp 95) (by kernel_rfl) (by kernel_rfl) (by kernel_rfl)) (.inr ⟨hFin, hGr⟩) ?_
                refine wpAnyH_done (by kernel_rfl) ?_ _
                refine NoPanic.normal ?_
                have hL3 : Low W1 (u10.setCell ⟨Br, 2, none⟩ (.int .i64 (N : Int))) := Below.grown hLq hGr hsz (fun q hq => by cases hq; omega)
                have hC3 := hCq.keep hGr (by simp; omega)
                clear hHeld hHd hGr hL10 hHb hHq hCq hLq hxs n1 n2 HTL HXl hBw
                generalize u10.setCell ⟨Br, 2, none⟩ (.int .i64 (N : Int)) = u3 at hFin hL3 hC3 ⊢
                obtain ⟨c0, c1, c2, c3⟩ := hFin.cells
                obtain ⟨d0, d1, d2, d3⟩ := hC3.cells
                obtain ⟨q, hq⟩ : ∃ q, btC ⟨X, Y, N, R⟩ c = q := ⟨_, rfl⟩
                have HQ2 : Hid (btC ⟨X, Y, N, R⟩ c = q) := hq
                have HB3 : Hid (pickL btC (if q then ⟨X, Y, N, R⟩ else c) (restC x y R i (k + 1)) = b) := (by
                  show _ = _
                  rw [← HB2.out, pickL_append, pick_ck x y R i j c HSk.out, HRun.out, hq])
                clear hq HB2 HSk HRun
                go_wp2_with fail
                refine (outdoes_f ⟨X, Y, N, R⟩ c q u3 HQ2).mono ?_
                rintro e u4 ⟨rfl, hB4⟩
                have hL4 : Low W1 u4 := Below.trans hL3 (hB4.mono (Below.size hL3))
                have hC4 := hC3.low hB4
                have hF4 := hFin.low hB4
                clear c0 c1 c2 c3 d0 d1 d2 d3 hL3 hC3 hFin hB4
                have hs4 := Below.size hL4
                cases q with
                | true =>
                  obtain ⟨c0, c1, c2, c3⟩ := hF4.cells
                  obtain ⟨d0, d1, d2, d3⟩ := hC4.cells
                  have f4 := hC4.frozen
                  have s1 := heap_setCell_same u4 W1.heap.size 0 _ _ (.int .i64 (X : Int)) hC4
                  have s2 := heap_setCell_same _ W1.heap.size 1 _ _ (.int .i64 (Y : Int)) s1
                  have s3 := heap_setCell_same _ W1.heap.size 2 _ _ (.int .i64 (N : Int)) s2
                  have s4 : Hbx ((((u4.setCell ⟨W1.heap.size, 0, none⟩ (.int .i64 (X : Int))).setCell ⟨W1.heap.size, 1, none⟩ (.int .i64 (Y : Int))).setCell ⟨W1.heap.size, 2, none⟩ (.int .i64 (N : Int))).setCell ⟨W1.heap.size, 3, none⟩ (.int .i64 (R : Int))) W1.heap.size ⟨X, Y, N, R⟩ := heap_setCell_same _ W1.heap.size 3 _ _ (.int .i64 (R : Int)) s3
                  have hL5 : Low W1 ((((u4.setCell ⟨W1.heap.size, 0, none⟩ (.int .i64 (X : Int))).setCell ⟨W1.heap.size, 1, none⟩ (.int .i64 (Y : Int))).setCell ⟨W1.heap.size, 2, none⟩ (.int .i64 (N : Int))).setCell ⟨W1.heap.size, 3, none⟩ (.int .i64 (R : Int))) := (((Below.setCell (p := ⟨W1.heap.size, 0, none⟩) hL4 (Nat.le_refl _) _).setCell (p := ⟨W1.heap.size, 1, none⟩) (Nat.le_refl _) _).setCell (p := ⟨W1.heap.size, 2, none⟩) (Nat.le_refl _) _).setCell (p := ⟨W1.heap.size, 3, none⟩) (Nat.le_refl _) _
                  go_wp2
                  go_roundw
                  case rel => exact ⟨k + 1, ⟨X, Y, N, R⟩, by omega, by go_num, hL5, s4, HB3⟩
                  case measure => simp [intOf]; omega
                | false =>
                  go_wp2
                  go_roundw
                  case rel => exact ⟨k + 1, c, by omega, by go_num, hL4, hC4, HB3⟩
                  case measure => simp [intOf]; omega
        · have HB2 : Hid (pickL btC c (restI x y R (i + 1)) = b) := (by rw [← restC_end x y R i k (by rw [← HN.out]; omega)]; exact HB)
          have hk' : ¬ (k : Int) < (n2 : Int) := by omega
          clear HB
          go_wp2
          go_roundw
          case rel => exact ⟨i + 1, c, by omega, by go_num, hL, hC, HB2⟩
          case measure => simp [intOf]; omega
    · have e : c = b := by
        have := HB.out
        rw [restI_end x y R i (by omega)] at this
        exact this
      subst e
      have hi' : ¬ (i : Int) < (x.length : Int) := by omega
      have hR5 := hR4.low hL
      obtain ⟨c0, c1, c2, c3⟩ := hC.cells
      obtain ⟨d0, d1, d2, d3⟩ := hR5.cells
      have f0 := hR5.frozen
      have s1 := heap_setCell_same wr w.heap.size 0 _ _ (.int .i64 (c.X : Int)) hR5
      have s2 := heap_setCell_same _ w.heap.size 1 _ _ (.int .i64 (c.Y : Int)) s1
      have s3 := heap_setCell_same _ w.heap.size 2 _ _ (.int .i64 (c.N : Int)) s2
      have s4 := heap_setCell_same _ w.heap.size 3 _ _ (.int .i64 (c.R : Int)) s3
      have hBr := hB04.trans (Below.mono hL hw1)
      have hBf : Below w.heap.size w ((((wr.setCell ⟨w.heap.size, 0, none⟩ (.int .i64 (c.X : Int))).setCell ⟨w.heap.size, 1, none⟩ (.int .i64 (c.Y : Int))).setCell ⟨w.heap.size, 2, none⟩ (.int .i64 (c.N : Int))).setCell ⟨w.heap.size, 3, none⟩ (.int .i64 (c.R : Int))) := (((hBr.setCell (p := ⟨w.heap.size, 0, none⟩) (Nat.le_refl _) _).setCell (p := ⟨w.heap.size, 1, none⟩) (Nat.le_refl _) _).setCell (p := ⟨w.heap.size, 2, none⟩) (Nat.le_refl _) _).setCell (p := ⟨w.heap.size, 3, none⟩) (Nat.le_refl _) _
      go_wp2
      exact bodyPost_ret (results_cell_tmp rfl _ _ w.heap.size 34 #[.int .i64 (c.X : Int), .int .i64 (c.Y : Int), .int .i64 (c.N : Int), .int .i64 (c.R : Int)] (0, 0) _ rfl s4 Try.underlying34 rfl (by kernel_rfl)) rfl ⟨rfl, hBf⟩
end Go.Proofs.Ytmhanngimmjmoab

/- What is kept of two pieces, by the layer histogram: plain. -/
namespace Go.Proofs.Ytmhanngimmjmoab

/-- what is kept of a middle, by the run to hold on to -/
def hsel (x y : List Int) (rec : Nat → Nat → Nat → Nat → List Pr) (a b c d : Nat) : Option Hr → List Pr
  | none => []
  | some r => if 64 < r.R then lp a c (kp 0 (sub x a b) (sub y c d)) else fp (a + r.X) (c + r.Y) r.N ++ (rec a (a + r.X) c (c + r.Y) ++ rec (a + r.X + r.N) b (c + r.Y + r.N) d)
def hmid (x y : List Int) (rec : Nat → Nat → Nat → Nat → List Pr) (a b c d : Nat) : List Pr := hsel x y rec a b c d (best (sub x a b) (sub y c d))
/-- a run of two pieces lies within them -/
theorem run_in {x y : List Int} {a b c d : Nat} (hb : b ≤ x.length) (hd : d ≤ y.length) {r : Hr} (h : IsRun (sub x a b) (sub y c d) r) : 0 < r.N ∧ a + r.X + r.N ≤ b ∧ c + r.Y + r.N ≤ d ∧ ∀ i, i < r.N → x[a + r.X + i]? = y[c + r.Y + i]? := by
  have h1 := tl_le (sub x a b) (sub y c d) r.X r.Y
  have h2 := h.n
  have h3 := h.hx
  have h4 := h.hy
  have h5 := h.pos
  rw [sub_length x a b hb] at h1 h3
  rw [sub_length y c d hd] at h1 h4
  refine ⟨h5, by omega, by omega, fun i hi => ?_⟩
  have := tl_same (sub x a b) (sub y c d) r.X r.Y i (by omega)
  rw [sub_at x a b _ (by omega), sub_at y c d _ (by omega)] at this
  rw [Nat.add_assoc, Nat.add_assoc]
  exact this
theorem hmid_ok (x y : List Int) : MOk (hmid x y) x y := by
  intro rec a b c d hab hb hcd hd hrec
  unfold hmid
  cases hr : best (sub x a b) (sub y c d) with
  | none => exact Okp.nil _ _ _ _
  | some r =>
    rw [hsel]
    have hin := run_in hb hd (best_some hr).1
    split
    · exact least_ok x y a b c d (by omega) hb (by omega) hd
    · have h1 := fp_ok (x := x) (y := y) (a + r.X) (c + r.Y) r.N hin.2.2.2
      have h2 := hrec a (a + r.X) c (c + r.Y) (by omega) (by omega) (by omega) (by omega)
      have h3 := hrec (a + r.X + r.N) b (c + r.Y + r.N) d (by omega) hb (by omega) hd
      have h23 := h2.cat h3 (.inl ⟨by omega, by omega⟩) (A := a) (B := b) (C := c) (D := d) ⟨by omega, by omega⟩ ⟨by omega, by omega⟩ ⟨by omega, by omega⟩ ⟨by omega, by omega⟩
      refine ⟨fun p hp => ?_, fun p hp q hq => ?_, fun p hp => ?_⟩
      · rcases List.mem_append.1 hp with hp | hp
        · exact (h1.mono (by omega) (by omega) (by omega) (by omega) : Okp x y a b c d _).wn p hp
        · exact h23.wn p hp
      · have hx : ∀ p ∈ fp (a + r.X) (c + r.Y) r.N, ∀ q ∈ rec a (a + r.X) c (c + r.Y) ++ rec (a + r.X + r.N) b (c + r.Y + r.N) d, ab q p ∨ ab p q := by
          intro p hp q hq
          have e1 := h1.wn p hp
          unfold Wn at e1
          rcases List.mem_append.1 hq with hq | hq
          · have e2 := h2.wn q hq
            unfold Wn at e2
            exact .inr ⟨by omega, by omega⟩
          · have e2 := h3.wn q hq
            unfold Wn at e2
            exact .inl ⟨by omega, by omega⟩
        rcases List.mem_append.1 hp with hp | hp <;> rcases List.mem_append.1 hq with hq | hq
        · exact h1.ris p hp q hq
        · exact .inr (hx p hp q hq)
        · exact .inr ((hx q hq p hp).symm)
        · exact h23.ris p hp q hq
      · rcases List.mem_append.1 hp with hp | hp
        · exact h1.eqs p hp
        · exact h23.eqs p hp
/-- what histogram keeps -/
def hKeep (x y : List Int) : List Int := wrk (List.replicate x.length (-1)) (pcs (hmid x y) x y (x.length + 1) 0 x.length 0 y.length)
theorem hKeep_ok (x y : List Int) : Okp x y 0 x.length 0 y.length (pcs (hmid x y) x y (x.length + 1) 0 x.length 0 y.length) := pcs_ok (hmid_ok x y) _ 0 x.length 0 y.length (Nat.zero_le _) (Nat.le_refl _) (Nat.zero_le _) (Nat.le_refl _)
theorem hKeep_kpt (x y : List Int) : Kpt x y (hKeep x y) := (hKeep_ok x y).kpt
theorem hKeep_front (x y : List Int) (i : Nat) (hi : i < tf x y 0 x.length 0 y.length) : (hKeep x y)[i]? = some (i : Int) := by
  have hm : (⟨(i : Int), (i : Int)⟩ : Pr) ∈ pcs (hmid x y) x y (x.length + 1) 0 x.length 0 y.length := by
    rw [pcs, ends, List.mem_append]
    exact .inl (mem_fp.2 ⟨i, hi, by simp⟩)
  have := (hKeep_ok x y).at hm
  simpa [hKeep] using this
theorem hKeep_nil (x y : List Int) (hx : x.length ≤ 4096) (hy : y.length ≤ 4096) : mkL (hKeep x y) y.length = [] ↔ x = y := by
  constructor
  · exact nil_same (hKeep_kpt x y).vk (hKeep_kpt x y).len (hKeep_kpt x y).eqs hx hy
  · rintro rfl
    have e : hKeep x x = (List.range x.length).map fun (j : Nat) => (0 : Int) + (j : Int) := by
      apply List.ext_getElem?
      intro i
      by_cases hi : i < x.length
      · rw [hKeep_front x x i (by rw [tf_all]; omega)]
        simp [hi]
      · rw [List.getElem?_eq_none (by rw [(hKeep_kpt x x).len]; omega), List.getElem?_eq_none (by simp; omega)]
    rw [e]
    exact mk_id x.length
theorem hKeep_le (x y : List Int) : prs (hKeep x y) ≤ lc x y := by
  have := hon_le (hKeep x y) x y 0 (hKeep_kpt x y).vk (hKeep_kpt x y).len (hKeep_kpt x y).eqs
  simpa using this
theorem prs_pos {K : List Int} {i : Nat} {z : Int} (h : K[i]? = some z) (hz : 0 ≤ z) : 0 < prs K := by
  unfold prs
  rw [List.length_pos_iff_exists_mem]
  exact ⟨z, List.mem_filter.2 ⟨List.mem_of_getElem? h, by simpa using hz⟩⟩
theorem lp_ne {K : List Int} (h : 0 < prs K) : ∀ a c, lp a c K ≠ [] := by
  induction K with
  | nil => simp [prs] at h
  | cons z K ih =>
    intro a c
    rw [lp]
    by_cases e : z = -1
    · rw [if_pos e, List.nil_append]
      refine ih ?_ _ _
      subst e
      simpa [prs] using h
    · rw [if_neg e]
      simp
/-- if both texts have a line in common, something is kept -/
theorem hKeep_some (x y : List Int) (h : 0 < lc x y) : 0 < prs (hKeep x y) := by
  have hne : pcs (hmid x y) x y (x.length + 1) 0 x.length 0 y.length ≠ [] := by
    intro he
    rw [pcs, ends] at he
    obtain ⟨h1, h2⟩ := List.append_eq_nil_iff.1 he
    obtain ⟨h2, h3⟩ := List.append_eq_nil_iff.1 h2
    have t1 : tf x y 0 x.length 0 y.length = 0 := by
      cases ht : tf x y 0 x.length 0 y.length with
      | zero => rfl
      | succ k => rw [ht, fp] at h1; cases h1
    rw [t1] at h2 h3
    simp only [Nat.add_zero] at h2 h3
    have t2 : tb x y 0 x.length 0 y.length = 0 := by
      cases ht : tb x y 0 x.length 0 y.length with
      | zero => rfl
      | succ k => rw [ht, bp] at h2; cases h2
    rw [t2] at h3
    simp only [Nat.sub_zero] at h3
    have hl1 := lc_left x y
    have hl2 := lc_right x y
    rw [if_pos ⟨by omega, by omega⟩, hmid, sub_all0, sub_all0] at h3
    obtain ⟨s, hs1, hs2, hs3⟩ := lc_ex x y
    obtain ⟨e, he⟩ : ∃ e, e ∈ s := List.length_pos_iff_exists_mem.1 (by omega)
    obtain ⟨i, hi, ei⟩ := List.getElem_of_mem (hs1.subset he)
    obtain ⟨j, hj, ej⟩ := List.getElem_of_mem (hs2.subset he)
    have hxy : x[i]? = y[j]? := by rw [List.getElem?_eq_getElem hi, List.getElem?_eq_getElem hj, ei, ej]
    cases hb : best x y with
    | none =>
      have h0 := hd_le x y i j
      have hr0 : 0 < rs x 0 y := by
        have := (rs_spec x y 0).2.1 y[j] (List.getElem_mem hj) (by rw [ej, ← ei]; exact List.count_pos_iff.2 (List.getElem_mem hi))
        omega
      have hR := rs_rst (x := x) (y := y) rfl hr0
      exact best_none hb _ (code_best hR).1
    | some r =>
      rw [hb] at h3
      rw [hsel] at h3
      have hin := (best_some hb).1.pos
      split at h3
      · exact lp_ne (by rw [hKeep_some.sub_all0, hKeep_some.sub_all0, prs_kp 0 x y (Int.le_refl _)]; exact h) _ _ h3
      · obtain ⟨h4, _⟩ := List.append_eq_nil_iff.1 h3
        cases hn : r.N with
        | zero => omega
        | succ k => rw [hn, fp] at h4; cases h4
  obtain ⟨p, hp⟩ := List.exists_mem_of_ne_nil _ hne
  have h1 := (hKeep_ok x y).at hp
  have h2 := (hKeep_ok x y).wn p hp
  unfold Wn at h2
  exact prs_pos h1 (by omega)
where sub_all0 (x : List Int) : sub x 0 x.length = x := by simp [sub]
end Go.Proofs.Ytmhanngimmjmoab

/- The package pieces: a piece as a value; Empty, UpTo, From, Keep, walked. -/
namespace Go.Proofs.Ytmhanngimmjmoab
open Go.RowKit

/-- a piece as a value: x from a up to b, y from c up to d; the row of what is kept lies in block g -/
def pzV (xo : Option Addr) (nx xc : Nat) (yo : Option Addr) (ny yc : Nat) (c : Nat) (ko : Option Addr) (kc : Nat) : Value := .agg #[.slice xo nx xc, .slice yo ny yc, .int .i64 c, .slice ko nx kc]
structure Pz (W0 : World) (g : Nat) (x y : List Int) (a b c d : Nat) (xo : Option Addr) (nx xc : Nat) (yo : Option Addr) (ny yc : Nat) (ko : Option Addr) (kc : Nat) : Prop where
  eb : b = a + nx
  ed : d = c + ny
  bx : b ≤ x.length
  dy : d ≤ y.length
  hx : Holds W0 (.slice xo nx xc) nx (icells (sub x a b))
  hy : Holds W0 (.slice yo ny yc) ny (icells (sub y c d))
  hk : nx ≤ kc
  at' : 0 < nx → ko = some ⟨g, a, none⟩
section
variable {W0 : World} {g : Nat} {x y : List Int} {a b c d : Nat} {xo : Option Addr} {nx xc : Nat} {yo : Option Addr} {ny yc : Nat} {ko : Option Addr} {kc : Nat}
theorem Pz.from (h : Pz W0 g x y a b c d xo nx xc yo ny yc ko kc) {i j : Nat} (hi : i ≤ nx) (hj : j ≤ ny) : Pz W0 g x y (a + i) b (c + j) d (slF xo xc i) (nx - i) (xc - i) (slF yo yc j) (ny - j) (yc - j) (slF ko kc i) (kc - i) := by
  have e1 := h.eb
  have e2 := h.ed
  have e3 := h.hk
  refine ⟨by omega, by omega, h.bx, h.dy, ?_, ?_, by omega, fun h0 => ?_⟩
  · rw [← sub_drop]
    exact hold_from h.hx (by rw [sub_length x a b h.bx]; omega) hi
  · rw [← sub_drop]
    exact hold_from h.hy (by rw [sub_length y c d h.dy]; omega) hj
  · rw [h.at' (by omega), slF, if_neg (by omega), Option.map_some, add_none]
theorem Pz.to (h : Pz W0 g x y a b c d xo nx xc yo ny yc ko kc) {i j : Nat} (hi : i ≤ nx) (hj : j ≤ ny) : Pz W0 g x y a (a + i) c (c + j) xo i xc yo j yc ko kc := by
  have e1 := h.eb
  have e2 := h.ed
  have e3 := h.hk
  have e4 := h.bx
  have e5 := h.dy
  refine ⟨rfl, rfl, by omega, by omega, ?_, ?_, by omega, fun h0 => h.at' (by omega)⟩
  · rw [← sub_take x a b i (by omega)]
    exact hold_to h.hx (by rw [sub_length x a b h.bx]; omega) hi
  · rw [← sub_take y c d j (by omega)]
    exact hold_to h.hy (by rw [sub_length y c d h.dy]; omega) hj
end

theorem Empty_f (xo : Option Addr) (nx xc : Nat) (yo : Option Addr) (ny yc c : Nat) (ko : Option Addr) (kc : Nat) (w : World) (r : Bool) (hr : Hid (r = decide (nx = 0 ∨ ny = 0))) :
    Calls Try.prog 28 #[pzV xo nx xc yo ny yc c ko kc] w fun e w' => e = .returned (.bool r) ∧ Below w.heap.size w w' := by
  unfold pzV
  by_cases h0 : nx = 0
  · subst h0
    obtain rfl : r = true := by rw [hr.out]; simp
    clear hr
    go_enter Try.func28, Try.ntmps28
    go_wp2
    go_ret
    exact ⟨rfl, (Below.refl _ w).alloc (Nat.le_refl _) _⟩
  · have e1 : decide ((nx : Int) = 0) = false := decide_eq_false (by omega)
    have e2 : decide (nx = 0) = false := decide_eq_false (by omega)
    have e3 : ((nx : Int) == 0) = false := by simp; omega
    by_cases h1 : ny = 0
    · subst h1
      obtain rfl : r = true := by rw [hr.out]; simp
      clear hr h0
      go_enter Try.func28, Try.ntmps28
      go_wp2
      go_ret
      exact ⟨rfl, (Below.refl _ w).alloc (Nat.le_refl _) _⟩
    · have e4 : decide ((ny : Int) = 0) = false := decide_eq_false (by omega)
      have e6 : ((ny : Int) == 0) = false := by simp; omega
      have e5 : decide (ny = 0) = false := decide_eq_false (by omega)
      obtain rfl : r = false := by rw [hr.out]; simp [h0, h1]
      clear hr h0 h1
      go_enter Try.func28, Try.ntmps28
      go_wp2
      go_ret
      exact ⟨rfl, (Below.refl _ w).alloc (Nat.le_refl _) _⟩

set_option maxHeartbeats 2000000 in
theorem UpTo_f (xo : Option Addr) (nx xc : Nat) (yo : Option Addr) (ny yc c : Nat) (ko : Option Addr) (kc : Nat) (w : World) (i j : Nat) (hi : i ≤ nx) (hj : j ≤ ny) (hxc : nx ≤ xc) (hyc : ny ≤ yc) (hkc : nx ≤ kc) :
    Calls Try.prog 31 #[pzV xo nx xc yo ny yc c ko kc, .int .i64 (i : Int), .int .i64 (j : Int)] w fun e w' => e = .returned (pzV xo i xc yo j yc c ko kc) ∧ Below w.heap.size w w' := by
  unfold pzV
  have r1 := run_slT xo nx xc i hi hxc
  have r2 := run_slT yo ny yc j hj hyc
  have r3 := run_slT ko nx kc i hi hkc
  clear hi hj hxc hyc hkc
  go_enter Try.func31, Try.ntmps31
  go_wp2
  go_region
  go_wp2
  have k2 := alloc_second w (Obj.cells #[.slice xo nx xc, .slice yo ny yc, .int .i64 c, .slice ko nx kc] 60) (Obj.cells #[.slice xo i xc, .slice yo j yc, .int .i64 c, .slice ko i kc] 60)
  exact bodyPost_ret (v := .agg #[.slice xo i xc, .slice yo j yc, .int .i64 c, .slice ko i kc]) (results_cell_row rfl _ _ (w.heap.size + 1) 60 #[.slice xo i xc, .slice yo j yc, .int .i64 c, .slice ko i kc] (0, 0) _ rfl k2 Try.underlying60 rfl (by kernel_rfl)) rfl ⟨rfl, (((Below.refl _ w).alloc (Nat.le_refl _) _).alloc (by simp) _).drew⟩

set_option maxHeartbeats 2000000 in
theorem From_f (xo : Option Addr) (nx xc : Nat) (yo : Option Addr) (ny yc c : Nat) (ko : Option Addr) (kc : Nat) (w : World) (i j : Nat) (hi : i ≤ nx) (hj : j ≤ ny) (hxc : nx ≤ xc) (hyc : ny ≤ yc) (hkc : nx ≤ kc) (hc : c + j ≤ 1048576) :
    Calls Try.prog 32 #[pzV xo nx xc yo ny yc c ko kc, .int .i64 (i : Int), .int .i64 (j : Int)] w fun e w' => e = .returned (pzV (slF xo xc i) (nx - i) (xc - i) (slF yo yc j) (ny - j) (yc - j) (c + j) (slF ko kc i) (kc - i)) ∧ Below w.heap.size w w' := by
  unfold pzV
  have r1 := run_slF xo nx xc i hi hxc
  have r2 := run_slF yo ny yc j hj hyc
  have r3 := run_slF ko nx kc i hi hkc
  generalize slF xo xc i = xo' at *
  generalize slF yo yc j = yo' at *
  generalize slF ko kc i = ko' at *
  generalize nx - i = nx' at *
  generalize ny - j = ny' at *
  generalize xc - i = xc' at *
  generalize yc - j = yc' at *
  generalize kc - i = kc' at *
  obtain ⟨c', hc'⟩ : ∃ c', c + j = c' := ⟨_, rfl⟩
  have n1 : (c : Int) + (j : Int) = (c' : Int) := by omega
  rw [hc']
  clear hi hj hxc hyc hkc hc'
  go_enter Try.func32, Try.ntmps32
  go_wp2
  go_region
  go_wp2
  have k2 := alloc_second w (Obj.cells #[.slice xo nx xc, .slice yo ny yc, .int .i64 c, .slice ko nx kc] 60) (Obj.cells #[.slice xo' nx' xc', .slice yo' ny' yc', .int .i64 c', .slice ko' nx' kc'] 60)
  exact bodyPost_ret (v := .agg #[.slice xo' nx' xc', .slice yo' ny' yc', .int .i64 c', .slice ko' nx' kc']) (results_cell_row rfl _ _ (w.heap.size + 1) 60 #[.slice xo' nx' xc', .slice yo' ny' yc', .int .i64 c', .slice ko' nx' kc'] (0, 0) _ rfl k2 Try.underlying60 rfl (by kernel_rfl)) rfl ⟨rfl, (((Below.refl _ w).alloc (Nat.le_refl _) _).alloc (by simp) _).drew⟩

theorem fp_snoc (a c k : Nat) : fp a c (k + 1) = fp a c k ++ [⟨(a + k : Nat), (c + k : Nat)⟩] := by
  induction k generalizing a c with
  | zero => simp [fp]
  | succ k ih =>
    rw [fp, ih (a + 1) (c + 1), fp]
    simp
    omega
/-- a piece in a box -/
def Qbx (u : World) (B : Nat) (v0 v1 v2 v3 : Value) : Prop := u.heap[B]? = some (.cells #[v0, v1, v2, v3] 60 (0, 0))
section
variable {u u' : World} {B : Nat} {v0 v1 v2 v3 : Value}
theorem Qbx.cells (h : Qbx u B v0 v1 v2 v3) : u.cell? ⟨B, 0, none⟩ = some v0 ∧ u.cell? ⟨B, 1, none⟩ = some v1 ∧ u.cell? ⟨B, 2, none⟩ = some v2 ∧ u.cell? ⟨B, 3, none⟩ = some v3 := by
  refine ⟨?_, ?_, ?_, ?_⟩ <;> rw [Lib.cell_of_heap h] <;> rfl
theorem Qbx.frozen (h : Qbx u B v0 v1 v2 v3) (j : Nat) : u.frozen? ⟨B, j, none⟩ = false := by
  unfold World.frozen?
  rw [h]
  rfl
theorem Qbx.lt (h : Qbx u B v0 v1 v2 v3) : B < u.heap.size := (Array.getElem?_eq_some_iff.1 h).1
theorem Qbx.keep (h : Qbx u B v0 v1 v2 v3) {r : Option Nat} (hg : u.grownBy u' r) (hr : some B ≠ r) : Qbx u' B v0 v1 v2 v3 := (hg.block B h.lt hr).trans h
theorem Qbx.low (h : Qbx u B v0 v1 v2 v3) (hg : Below u.heap.size u u') : Qbx u' B v0 v1 v2 v3 := (hg.block B h.lt).trans h
theorem Qbx.drewN (h : Qbx u B v0 v1 v2 v3) (k : Nat) : Qbx (u.drewN k) B v0 v1 v2 v3 := h
theorem Qbx.new (w : World) (v0 v1 v2 v3 : Value) : Qbx (w.alloc (.cells #[v0, v1, v2, v3] 60)) w.heap.size v0 v1 v2 v3 := _root_.Go.heap_alloc_new w _
theorem Qbx.put (h : Qbx u B v0 v1 v2 v3) (z0 z1 z2 z3 : Value) : Qbx ((((u.setCell ⟨B, 0, none⟩ z0).setCell ⟨B, 1, none⟩ z1).setCell ⟨B, 2, none⟩ z2).setCell ⟨B, 3, none⟩ z3) B z0 z1 z2 z3 := by
  have s1 := heap_setCell_same u B 0 _ _ z0 h
  have s2 := heap_setCell_same _ B 1 _ _ z1 s1
  have s3 := heap_setCell_same _ B 2 _ _ z2 s2
  exact heap_setCell_same _ B 3 _ _ z3 s3
end
set_option maxHeartbeats 2000000 in
theorem Keep_f {W0 : World} {g N : Nat} (K : List Int) (xo : Option Addr) (nx xc : Nat) (yo : Option Addr) (ny yc a c : Nat) (ko : Option Addr) (kc : Nat) (w : World) (i j n : Nat) (hS : Ls W0 g N K w) (hko : 0 < nx → ko = some ⟨g, a, none⟩) (haN : a + nx ≤ N) (hN : N ≤ 1048576) (hin : i + n ≤ nx) (hc : c + j + n ≤ 1048576) :
    Calls Try.prog 30 #[pzV xo nx xc yo ny yc c ko kc, .int .i64 (i : Int), .int .i64 (j : Int), .int .i64 (n : Int)] w fun e w' => e = .returned (.tuple #[]) ∧ Ls W0 g N (wrk K (fp (a + i) (c + j) n)) w' ∧ w.grownBy w' (some g) := by
  unfold pzV
  have hgw := hS.lt
  have hS0 := hS.keep ((Below.refl _ w).alloc (Nat.le_refl _) (.cells #[.slice xo nx xc, .slice yo ny yc, .int .i64 c, .slice ko nx kc] 60))
  have hG0 := low_grown ((Below.refl _ w).alloc (Nat.le_refl _) (.cells #[.slice xo nx xc, .slice yo ny yc, .int .i64 c, .slice ko nx kc] 60)) (some g)
  have hQ0 := Qbx.new w (.slice xo nx xc) (.slice yo ny yc) (.int .i64 c) (.slice ko nx kc)
  go_enter Try.func30, Try.ntmps30
  go_wp2
  go_loopw [10] (fun iv wr => ∃ k : Nat, k ≤ n ∧ iv = .int .i64 k ∧ Ls W0 g N (wrk K (fp (a + i) (c + j) k)) wr ∧ w.grownBy wr (some g) ∧ Qbx wr w.heap.size (.slice xo nx xc) (.slice yo ny yc) (.int .i64 c) (.slice ko nx kc)) (fun iv _ => n - (intOf iv).toNat)
  case atStart => exact ⟨0, Nat.zero_le _, rfl, hS0, hG0, hQ0⟩
  case round =>
    clear hS0 hG0 hQ0 hS
    obtain ⟨k, hk, rfl, hS, hG, hQ⟩ := hrel
    by_cases hlt : k < n
    · obtain rfl := hko (by omega)
      obtain ⟨c0, c1, c2, c3⟩ := hQ.cells
      obtain ⟨q, hq⟩ : ∃ q, i + k = q := ⟨_, rfl⟩
      obtain ⟨z, hz⟩ : ∃ z, c + j + k = z := ⟨_, rfl⟩
      obtain ⟨z', hz'⟩ : ∃ z, c + j = z := ⟨_, rfl⟩
      have n1 : (i : Int) + (k : Int) = (q : Int) := by omega
      have n2 : (c : Int) + (j : Int) = (z' : Int) := by omega
      have n3 : (z' : Int) + (k : Int) = (z : Int) := by omega
      have i1 : 0 ≤ (q : Int) := by omega
      have i2 : (q : Int) < (nx : Int) := by omega
      have i3 : (k : Int) < (n : Int) := by omega
      have hl := hS.len
      have d0 := hS.at (List.getElem?_eq_getElem (i := a + q) (by omega))
      have f0 := hS.own.frozenAt (a + q)
      have hS1 := hS.set (a + q) (z : Int)
      have hG1 : w.grownBy (wr.setCell ⟨g, a + q, none⟩ (.int .i64 (z : Int))) (some g) := hG.trans (grown_set wr g (a + q) _)
      have hQ1 := hQ.keep (grown_set wr g (a + q) (.int .i64 (z : Int))) (by simp; omega)
      have HE : Hid ((wrk K (fp (a + i) (c + j) k)).set (a + q) (z : Int) = wrk K (fp (a + i) (c + j) (k + 1))) := (by
        show _ = _
        rw [fp_snoc, wrk_append, ← hz, ← hq]
        simp only [wrk, List.foldl_cons, List.foldl_nil]
        congr 1
        omega)
      generalize (wrk K (fp (a + i) (c + j) k))[a + q] = z0 at d0
      clear hl hq hz hz' hko
      go_wp2
      go_roundw
      case rel => exact ⟨k + 1, by omega, by go_num, by rw [← HE.out]; exact hS1, hG1, hQ1⟩
      case measure => simp [intOf]; omega
    · obtain rfl : k = n := by omega
      go_wp2
      go_end0
      exact ⟨rfl, hS, hG⟩
end Go.Proofs.Ytmhanngimmjmoab
