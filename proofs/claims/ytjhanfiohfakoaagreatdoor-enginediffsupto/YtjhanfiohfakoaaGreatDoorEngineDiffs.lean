/-
  For every engine, all lists of lines a and b, and whatever is ignored, of together at most 1048576 letters and values, the law EngineDiffs returns true and leaves its arguments as they were: engine.Diff and engine.Name answer as the plain reference does, texts that are too long are refused, and the texts stay as they are. The variables that the start lays are the listed ones.
-/
import Derived.Test.YtjhanfiohfakoaaGreatDoorPartA17
import Derived.Test.YtjhanfiohfakoaaGreatDoorPartB1
import Derived.Test.YtjhanfiohfakoaaGreatDoorPartA7
import Derived.Test.YtjhanfiohfakoaaGreatDoorPartA3
import Derived.Deep.CutRange
set_option maxRecDepth 20000
namespace Go.Proofs.YtjhanfiohfakoaaGreatDoor.engineDiffs
open Go.ChangeShapes Go.WideShapes Go.ChangeAt Go.RowKit

theorem exec_min {u : World} {n : Nat} {m : Nat} (hm : m = min 1 n) {op : Oper} (x y : Operand) (ho : op.op = .call { callee := .builtin .min, args := #[x, y], argTypes := #[3, 3] }) {ev : Operand → Value} (hx : ev x = .int .i64 1) (hy : ev y = .int .i64 (n : Int)) :
    (execOp ev op).run Tryz.prog u = .ok (.value (.int .i64 (m : Int))) u := by
  have h : (Builtin.min_ #[3, 3] op.type #[.int .i64 1, .int .i64 (n : Int)]).run Tryz.prog u = .ok (.int .i64 (m : Int)) u := by
    rw [run_min_int2]
    congr 2
    split <;> omega
  simp only [execOp, ho]
  go_simp
theorem run_toS (ao : Option Addr) (n cap k : Nat) (hk : k ≤ n) (hn : n ≤ cap) (u : World) : (Instr.slice 22 (.slice ao n cap) none (some (.int .i64 (k : Int))) none).run Tryz.prog u = .ok (.slice ao k cap) u := by
  rw [run_slice_h (P := Tryz.prog) u 22 ao n cap (by kernel_rfl) .i64 k (by omega) (by omega)]
  have : (sizeOf (Tryz.prog.elem 22)).run Tryz.prog u = .ok 1 u := by kernel_rfl
  rw [this]
  cases ao with
  | none => simp [Result.andThen, sliced]
  | some ad => simp [Result.andThen, sliced, Addr.add]
theorem exec_slS {u : World} {ao ao' : Option Addr} {n cap h n' c' : Nat} (hr : ∀ u : World, (Instr.slice 22 (.slice ao n cap) none (some (.int .i64 (h : Int))) none).run Tryz.prog u = .ok (.slice ao' n' c') u) {op : Oper} (x z : Operand) (ho : op.op = .slice 22 x none (some z) none) {ev : Operand → Value} (hx : ev x = .slice ao n cap) (hz : ev z = .int .i64 (h : Int)) :
    (execOp ev op).run Tryz.prog u = .ok (.value (.slice ao' n' c')) u := by
  have h2 := run_sliceAt_slice (P := Tryz.prog) (w := u) 22 (.slice ao n cap) none (some (.int .i64 (h : Int))) none (by kernel_rfl)
  simp only [execOp, ho, hx, hz, Option.map_some, Option.map_none, Sem.run_bind, h2, hr u, Result.andThen_ok, Sem.run_pure]
theorem load_ig {o : Tx.Cn.Ig} {b : Nat} {w : World} (h : Tx.Boxed o b w) {op : Oper} (x : Operand) (ho : op.op = .load 24 x) {ev : Operand → Value} (hx : ev x = .pointer (some ⟨b, 0, none⟩)) :
    (execOp ev op).run Tryz.prog w = .ok (.value (.agg #[.bool o.sp, .bool o.wt, .bool o.bl, .bool o.cs, .bool o.tb, .bool o.tr])) w := by
  obtain ⟨d0, d1, d2, d3, d4, d5⟩ := h.cells
  simp only [execOp, ho, hx]
  go_simp
theorem hold_take {w : World} {ao : Option Addr} {cap m : Nat} {l : List (List UInt8)} (h : HS w (.slice ao l.length cap) l) (hm : m ≤ l.length) : HS w (.slice ao m cap) (l.take m) := by
  have e : (l.take m).length = m := by rw [List.length_take]; omega
  unfold HS
  rw [e]
  rcases h with ⟨h1, h2, h3⟩ | ⟨ad, c, h1, h2, h3⟩
  · have e0 : l = [] := List.eq_nil_of_length_eq_zero h2
    subst e0
    obtain rfl : m = 0 := by simpa using hm
    refine .inl ⟨?_, rfl, by simp [scells]⟩
    simpa using h1
  · cases h1
    refine .inr ⟨ad, cap, rfl, by omega, fun j u hj => h3 j u ?_⟩
    have hj' := (List.getElem?_eq_some_iff.1 hj).1
    rw [scells_length, e] at hj'
    rw [← hj]
    simp [scells, hj']
/-- the reference at one line or none -/
theorem one_held {k f : Int} {o : Tx.Cn.Ig} {so : Option Addr} {m sc : Nat} {W u : World} (h : ∀ u, Low W u → Calls Tryz.prog 7 #[.int .i64 k, .slice so m sc, .slice none 0 0, .agg #[.bool o.sp, .bool o.wt, .bool o.bl, .bool o.cs, .bool o.tb, .bool o.tr]] u fun e w' => (∃ v, e = .returned (.tuple #[v, .int .i64 f])) ∧ Below u.heap.size u w') (hL : Low W u) :
    Calls Tryz.prog 7 (#[.int .i64 k, .slice so m sc, .slice none 0 0, .agg #[.bool o.sp, .bool o.wt, .bool o.bl, .bool o.cs, .bool o.tb, .bool o.tr]] ++ #[]) u fun e w' => ∃ v, e = .returned v ∧ Low W w' ∧ ∃ v', v = .tuple #[v', .int .i64 f] := by
  refine (h u hL).mono ?_
  rintro e w' ⟨⟨v, rfl⟩, hB⟩
  exact ⟨_, rfl, Below.trans hL (hB.mono (Below.size hL)), v, rfl⟩

set_option maxRecDepth 10000 in
set_option maxHeartbeats 4000000 in
theorem long_g (k er f : Int) (a b : List (List UInt8)) (o : Tx.Cn.Ig) (ao bo : Option Addr) (ac bc m : Nat) (w : World) (hl : 4096 < a.length ∨ 4096 < b.length) (hac : a.length ≤ ac) (HM : Hid (m = min 1 a.length)) (hef : Hid ((f = 5 ∧ er = 5) ∨ (f = 0 ∧ er = 9)))
    (HOne : Hid (∀ u, Below w.heap.size w u → Calls Tryz.prog 7 #[.int .i64 k, .slice ao m ac, .slice none 0 0, .agg #[.bool o.sp, .bool o.wt, .bool o.bl, .bool o.cs, .bool o.tb, .bool o.tr]] u fun e w' => (∃ v, e = .returned (.tuple #[v, .int .i64 f])) ∧ Below u.heap.size u w'))
    (HD : Hid (∀ u, Below w.heap.size w u → Calls Tryz.prog 6 #[.int .i64 k, .slice ao a.length ac, .slice bo b.length bc, .agg #[.bool o.sp, .bool o.wt, .bool o.bl, .bool o.cs, .bool o.tb, .bool o.tr]] u fun e w' => e = .returned (.tuple #[.slice none 0 0, .int .i64 er]) ∧ Below u.heap.size u w')) :
    Calls Tryz.prog 3 #[.int .i64 k, .slice ao a.length ac, .slice bo b.length bc, .agg #[.bool o.sp, .bool o.wt, .bool o.bl, .bool o.cs, .bool o.tb, .bool o.tr]] w fun e w' => e = .returned (.bool true) ∧ Below w.heap.size w w' := by
  have HL : Hid (4096 < a.length ∨ 4096 < b.length) := hl
  have r1 := run_toS ao a.length ac m (by rw [HM.out]; omega) hac
  have hB0 := (Below.refl w.heap.size w).alloc (Nat.le_refl _) (igC o)
  have hBx := Tx.Boxed.fresh o w
  clear hac hl
  unfold igC at hB0
  go_enter Tryz.func3, Tryz.ntmps3
  by_cases h1 : 4096 < a.length
  · have e2 : decide ((4096 : Int) < (a.length : Int)) = true := decide_eq_true (by omega)
    go_wp2_with fail
    refine (HD.out _ hB0).mono ?_
    rintro e w1 ⟨rfl, hB1⟩
    have hB01 := hB0.trans (hB1.mono hB0.size)
    have hBx1 := hBx.keep hB1
    obtain ⟨d0, d1, d2, d3, d4, d5⟩ := hBx1.cells
    clear hB0 hB1 hBx
    go_wp2_with fail
    clear d0 d1 d2 d3 d4 d5
    obtain ⟨W2, hW2⟩ : ∃ W2, w1 = W2 := ⟨_, rfl⟩
    rw [hW2] at hB01 hBx1 ⊢
    have HOne2 : Hid (∀ u, Low W2 u → Calls Tryz.prog 7 #[.int .i64 k, .slice ao m ac, .slice none 0 0, .agg #[.bool o.sp, .bool o.wt, .bool o.bl, .bool o.cs, .bool o.tb, .bool o.tr]] u fun e w' => (∃ v, e = .returned (.tuple #[v, .int .i64 f])) ∧ Below u.heap.size u w') := (fun u hu => HOne.out u (hB01.trans (Below.mono hu hB01.size)))
    refine wp_region_noPanic ?_
    refine wp_region_held_drew (S := fun u => Low W2 u) (by kernel_rfl) (Below.dN (Below.refl _ W2) 1) (fun hHeld => ?_)
    refine go_take 0 36 _ (.int .i64 k) rfl (by kernel_rfl) (by kernel_rfl) (by kernel_rfl) (by kernel_rfl) (fun _ _ _ h => h) (Or.inl ⟨by kernel_rfl, fun u hu => by kernel_rfl⟩) hHeld ?_
    simp only [Act.put, List.setIfInBounds_toArray, List.set_cons_zero, List.set_cons_succ]
    refine go_take 1 37 _ (.slice ao a.length ac) rfl (by kernel_rfl) (by kernel_rfl) (by kernel_rfl) (by kernel_rfl) (fun _ _ _ h => h) (Or.inl ⟨by kernel_rfl, fun u hu => by kernel_rfl⟩) hHeld ?_
    simp only [Act.put, List.setIfInBounds_toArray, List.set_cons_zero, List.set_cons_succ]
    refine go_take 2 38 _ (.slice ao a.length ac) rfl (by kernel_rfl) (by kernel_rfl) (by kernel_rfl) (by kernel_rfl) (fun _ _ _ h => h) (Or.inl ⟨by kernel_rfl, fun u hu => by kernel_rfl⟩) hHeld ?_
    simp only [Act.put, List.setIfInBounds_toArray, List.set_cons_zero, List.set_cons_succ]
    refine go_take 3 39 _ (.int .i64 (a.length : Int)) rfl (by kernel_rfl) (by kernel_rfl) (by kernel_rfl) (by kernel_rfl) (fun _ _ _ h => h) (Or.inl ⟨by kernel_rfl, fun u hu => by kernel_rfl⟩) hHeld ?_
    simp only [Act.put, List.setIfInBounds_toArray, List.set_cons_zero, List.set_cons_succ]
    refine go_take 4 40 _ (.int .i64 (m : Int)) rfl (by kernel_rfl) (by kernel_rfl) (by kernel_rfl) (by kernel_rfl) (fun _ _ _ h => h) (Or.inl ⟨by kernel_rfl, fun u hu => exec_min HM.out (.const (.int .i64 1)) (.tmp 39) (by kernel_rfl) (by kernel_rfl) (by kernel_rfl)⟩) hHeld ?_
    simp only [Act.put, List.setIfInBounds_toArray, List.set_cons_zero, List.set_cons_succ]
    refine go_take 5 41 _ (.slice ao m ac) rfl (by kernel_rfl) (by kernel_rfl) (by kernel_rfl) (by kernel_rfl) (fun _ _ _ h => h) (Or.inl ⟨by kernel_rfl, fun u hu => exec_slS r1 (.tmp 37) (.tmp 40) (by kernel_rfl) (by kernel_rfl) (by kernel_rfl)⟩) hHeld ?_
    simp only [Act.put, List.setIfInBounds_toArray, List.set_cons_zero, List.set_cons_succ]
    refine go_take 6 42 _ (.agg #[.bool o.sp, .bool o.wt, .bool o.bl, .bool o.cs, .bool o.tb, .bool o.tr]) rfl (by kernel_rfl) (by kernel_rfl) (by kernel_rfl) (by kernel_rfl) (fun _ _ _ h => h) (Or.inl ⟨by kernel_rfl, fun u hu => load_ig (hBx1.keep hu) (.tmp 7) (by kernel_rfl) (by kernel_rfl)⟩) hHeld ?_
    simp only [Act.put, List.setIfInBounds_toArray, List.set_cons_zero, List.set_cons_succ]
    refine go_callE 7 43 _ rfl (by kernel_rfl) (by kernel_rfl) (by kernel_rfl) 7 (.func 7) #[.tmp 36, .tmp 41, .const (.slice none 0 0), .tmp 42] #[3, 22, 22, 24] (by kernel_rfl) #[] (by kernel_rfl) #[.int .i64 k, .slice ao m ac, .slice none 0 0, .agg #[.bool o.sp, .bool o.wt, .bool o.bl, .bool o.cs, .bool o.tb, .bool o.tr]] (by kernel_rfl) (enters_of Tryz.func7 (by kernel_rfl) rfl) _ (one_held HOne2.out hHeld) ?_
    rintro _ u7 hHeld ⟨v7, rfl⟩
    simp only [Act.put, List.setIfInBounds_toArray, List.set_cons_zero, List.set_cons_succ]
    refine go_take 8 35 _ (.tuple #[v7, .int .i64 f]) rfl (by kernel_rfl) (by kernel_rfl) (by kernel_rfl) (by kernel_rfl) (fun _ _ _ h => h) (Or.inl ⟨by kernel_rfl, fun u hu => by kernel_rfl⟩) hHeld ?_
    simp only [Act.put, List.setIfInBounds_toArray, List.set_cons_zero, List.set_cons_succ]
    refine go_take 9 44 _ (v7) rfl (by kernel_rfl) (by kernel_rfl) (by kernel_rfl) (by kernel_rfl) (fun _ _ _ h => h) (Or.inl ⟨by kernel_rfl, fun u hu => by kernel_rfl⟩) hHeld ?_
    simp only [Act.put, List.setIfInBounds_toArray, List.set_cons_zero, List.set_cons_succ]
    refine go_take 10 45 _ (.int .i64 f) rfl (by kernel_rfl) (by kernel_rfl) (by kernel_rfl) (by kernel_rfl) (fun _ _ _ h => h) (Or.inl ⟨by kernel_rfl, fun u hu => by kernel_rfl⟩) hHeld ?_
    simp only [Act.put, List.setIfInBounds_toArray, List.set_cons_zero, List.set_cons_succ]
    refine go_take 11 11 _ (v7) rfl (by kernel_rfl) (by kernel_rfl) (by kernel_rfl) (by kernel_rfl) (fun _ _ _ h => h) (Or.inl ⟨by kernel_rfl, fun u hu => by kernel_rfl⟩) hHeld ?_
    simp only [Act.put, List.setIfInBounds_toArray, List.set_cons_zero, List.set_cons_succ]
    refine go_take 12 12 _ (.int .i64 f) rfl (by kernel_rfl) (by kernel_rfl) (by kernel_rfl) (by kernel_rfl) (fun _ _ _ h => h) (Or.inl ⟨by kernel_rfl, fun u hu => by kernel_rfl⟩) hHeld ?_
    simp only [Act.put, List.setIfInBounds_toArray, List.set_cons_zero, List.set_cons_succ]
    refine wpAnyH_done (by kernel_rfl) ?_ _
    refine NoPanic.normal ?_
    have hB02 := hB01.trans (Below.mono hHeld hB01.size)
    rcases hef.out with ⟨rfl, rfl⟩ | ⟨rfl, rfl⟩
    · go_wp2
      go_ret
      exact ⟨rfl, hB02⟩
    · go_wp2
      go_ret
      exact ⟨rfl, hB02⟩
  · have h2 : 4096 < b.length := by have := HL.out; omega
    have e2 : decide ((4096 : Int) < (a.length : Int)) = false := decide_eq_false (by omega)
    have e3 : decide ((4096 : Int) < (b.length : Int)) = true := decide_eq_true (by omega)
    go_wp2_with fail
    refine (HD.out _ hB0).mono ?_
    rintro e w1 ⟨rfl, hB1⟩
    have hB01 := hB0.trans (hB1.mono hB0.size)
    have hBx1 := hBx.keep hB1
    obtain ⟨d0, d1, d2, d3, d4, d5⟩ := hBx1.cells
    clear hB0 hB1 hBx
    go_wp2_with fail
    clear d0 d1 d2 d3 d4 d5
    obtain ⟨W2, hW2⟩ : ∃ W2, w1 = W2 := ⟨_, rfl⟩
    rw [hW2] at hB01 hBx1 ⊢
    have HOne2 : Hid (∀ u, Low W2 u → Calls Tryz.prog 7 #[.int .i64 k, .slice ao m ac, .slice none 0 0, .agg #[.bool o.sp, .bool o.wt, .bool o.bl, .bool o.cs, .bool o.tb, .bool o.tr]] u fun e w' => (∃ v, e = .returned (.tuple #[v, .int .i64 f])) ∧ Below u.heap.size u w') := (fun u hu => HOne.out u (hB01.trans (Below.mono hu hB01.size)))
    refine wp_region_noPanic ?_
    refine wp_region_held_drew (S := fun u => Low W2 u) (by kernel_rfl) (Below.dN (Below.refl _ W2) 1) (fun hHeld => ?_)
    refine go_take 0 36 _ (.int .i64 k) rfl (by kernel_rfl) (by kernel_rfl) (by kernel_rfl) (by kernel_rfl) (fun _ _ _ h => h) (Or.inl ⟨by kernel_rfl, fun u hu => by kernel_rfl⟩) hHeld ?_
    simp only [Act.put, List.setIfInBounds_toArray, List.set_cons_zero, List.set_cons_succ]
    refine go_take 1 37 _ (.slice ao a.length ac) rfl (by kernel_rfl) (by kernel_rfl) (by kernel_rfl) (by kernel_rfl) (fun _ _ _ h => h) (Or.inl ⟨by kernel_rfl, fun u hu => by kernel_rfl⟩) hHeld ?_
    simp only [Act.put, List.setIfInBounds_toArray, List.set_cons_zero, List.set_cons_succ]
    refine go_take 2 38 _ (.slice ao a.length ac) rfl (by kernel_rfl) (by kernel_rfl) (by kernel_rfl) (by kernel_rfl) (fun _ _ _ h => h) (Or.inl ⟨by kernel_rfl, fun u hu => by kernel_rfl⟩) hHeld ?_
    simp only [Act.put, List.setIfInBounds_toArray, List.set_cons_zero, List.set_cons_succ]
    refine go_take 3 39 _ (.int .i64 (a.length : Int)) rfl (by kernel_rfl) (by kernel_rfl) (by kernel_rfl) (by kernel_rfl) (fun _ _ _ h => h) (Or.inl ⟨by kernel_rfl, fun u hu => by kernel_rfl⟩) hHeld ?_
    simp only [Act.put, List.setIfInBounds_toArray, List.set_cons_zero, List.set_cons_succ]
    refine go_take 4 40 _ (.int .i64 (m : Int)) rfl (by kernel_rfl) (by kernel_rfl) (by kernel_rfl) (by kernel_rfl) (fun _ _ _ h => h) (Or.inl ⟨by kernel_rfl, fun u hu => exec_min HM.out (.const (.int .i64 1)) (.tmp 39) (by kernel_rfl) (by kernel_rfl) (by kernel_rfl)⟩) hHeld ?_
    simp only [Act.put, List.setIfInBounds_toArray, List.set_cons_zero, List.set_cons_succ]
    refine go_take 5 41 _ (.slice ao m ac) rfl (by kernel_rfl) (by kernel_rfl) (by kernel_rfl) (by kernel_rfl) (fun _ _ _ h => h) (Or.inl ⟨by kernel_rfl, fun u hu => exec_slS r1 (.tmp 37) (.tmp 40) (by kernel_rfl) (by kernel_rfl) (by kernel_rfl)⟩) hHeld ?_
    simp only [Act.put, List.setIfInBounds_toArray, List.set_cons_zero, List.set_cons_succ]
    refine go_take 6 42 _ (.agg #[.bool o.sp, .bool o.wt, .bool o.bl, .bool o.cs, .bool o.tb, .bool o.tr]) rfl (by kernel_rfl) (by kernel_rfl) (by kernel_rfl) (by kernel_rfl) (fun _ _ _ h => h) (Or.inl ⟨by kernel_rfl, fun u hu => load_ig (hBx1.keep hu) (.tmp 7) (by kernel_rfl) (by kernel_rfl)⟩) hHeld ?_
    simp only [Act.put, List.setIfInBounds_toArray, List.set_cons_zero, List.set_cons_succ]
    refine go_callE 7 43 _ rfl (by kernel_rfl) (by kernel_rfl) (by kernel_rfl) 7 (.func 7) #[.tmp 36, .tmp 41, .const (.slice none 0 0), .tmp 42] #[3, 22, 22, 24] (by kernel_rfl) #[] (by kernel_rfl) #[.int .i64 k, .slice ao m ac, .slice none 0 0, .agg #[.bool o.sp, .bool o.wt, .bool o.bl, .bool o.cs, .bool o.tb, .bool o.tr]] (by kernel_rfl) (enters_of Tryz.func7 (by kernel_rfl) rfl) _ (one_held HOne2.out hHeld) ?_
    rintro _ u7 hHeld ⟨v7, rfl⟩
    simp only [Act.put, List.setIfInBounds_toArray, List.set_cons_zero, List.set_cons_succ]
    refine go_take 8 35 _ (.tuple #[v7, .int .i64 f]) rfl (by kernel_rfl) (by kernel_rfl) (by kernel_rfl) (by kernel_rfl) (fun _ _ _ h => h) (Or.inl ⟨by kernel_rfl, fun u hu => by kernel_rfl⟩) hHeld ?_
    simp only [Act.put, List.setIfInBounds_toArray, List.set_cons_zero, List.set_cons_succ]
    refine go_take 9 44 _ (v7) rfl (by kernel_rfl) (by kernel_rfl) (by kernel_rfl) (by kernel_rfl) (fun _ _ _ h => h) (Or.inl ⟨by kernel_rfl, fun u hu => by kernel_rfl⟩) hHeld ?_
    simp only [Act.put, List.setIfInBounds_toArray, List.set_cons_zero, List.set_cons_succ]
    refine go_take 10 45 _ (.int .i64 f) rfl (by kernel_rfl) (by kernel_rfl) (by kernel_rfl) (by kernel_rfl) (fun _ _ _ h => h) (Or.inl ⟨by kernel_rfl, fun u hu => by kernel_rfl⟩) hHeld ?_
    simp only [Act.put, List.setIfInBounds_toArray, List.set_cons_zero, List.set_cons_succ]
    refine go_take 11 11 _ (v7) rfl (by kernel_rfl) (by kernel_rfl) (by kernel_rfl) (by kernel_rfl) (fun _ _ _ h => h) (Or.inl ⟨by kernel_rfl, fun u hu => by kernel_rfl⟩) hHeld ?_
    simp only [Act.put, List.setIfInBounds_toArray, List.set_cons_zero, List.set_cons_succ]
    refine go_take 12 12 _ (.int .i64 f) rfl (by kernel_rfl) (by kernel_rfl) (by kernel_rfl) (by kernel_rfl) (fun _ _ _ h => h) (Or.inl ⟨by kernel_rfl, fun u hu => by kernel_rfl⟩) hHeld ?_
    simp only [Act.put, List.setIfInBounds_toArray, List.set_cons_zero, List.set_cons_succ]
    refine wpAnyH_done (by kernel_rfl) ?_ _
    refine NoPanic.normal ?_
    have hB02 := hB01.trans (Below.mono hHeld hB01.size)
    rcases hef.out with ⟨rfl, rfl⟩ | ⟨rfl, rfl⟩
    · go_wp2
      go_ret
      exact ⟨rfl, hB02⟩
    · go_wp2
      go_ret
      exact ⟨rfl, hB02⟩

theorem too_long (k : Int) (a b : List (List UInt8)) (o : Tx.Cn.Ig) (va vb : Value) (w : World) (hla : ∀ l ∈ a, l.length ≤ 137438953472) (ha : HS w va a) (hb : HS w vb b) (hl : 4096 < a.length ∨ 4096 < b.length) :
    Calls Tryz.prog 3 #[.int .i64 k, va, vb, Tx.igV o] w fun e w' => e = .returned (.bool true) ∧ Below w.heap.size w w' := by
  obtain ⟨ao, ac, rfl⟩ := Holds.form ha
  obtain ⟨bo, bc, rfl⟩ := Holds.form hb
  obtain ⟨m, hm⟩ : ∃ m, m = min 1 a.length := ⟨_, rfl⟩
  have hac : a.length ≤ ac := by
    rcases ha with ⟨h, _, _⟩ | ⟨ad, c, h, h3, _⟩
    · simp at h; simp [h]
    · cases h; exact h3
  by_cases hk : k < 1 ∨ 4 < k
  · refine long_g k 5 5 a b o ao bo ac bc m w hl hac hm (.inl ⟨rfl, rfl⟩) (fun u hu => ?_) (fun u hu => En_kind k o _ _ u hk)
    refine (rEn_kind k o _ _ u hk).mono ?_
    rintro e w' ⟨rfl, h⟩
    exact ⟨⟨_, rfl⟩, h⟩
  · refine long_g k 9 0 a b o ao bo ac bc m w hl hac hm (.inr ⟨rfl, rfl⟩) (fun u hu => ?_) (fun u hu => En_long k o a b _ _ u (HS.keep ha hu (Nat.le_refl _)) (HS.keep hb hu (Nat.le_refl _)) (by omega) hl)
    have h1 := hold_take (m := m) (HS.keep ha hu (Nat.le_refl _)) (by omega)
    refine (rEn_f k o (a.take m) [] _ _ u h1 (.inl ⟨rfl, rfl, rfl⟩) (by omega) (by rw [List.length_take]; omega) (by simp) (fun l h => hla l (List.mem_of_mem_take h)) (fun l h => by cases h) _ rfl).mono ?_
    rintro e w' ⟨v, rfl, _, h⟩
    exact ⟨⟨v, rfl⟩, h⟩

set_option maxRecDepth 10000 in
set_option maxHeartbeats 2000000 in
theorem let_go (k : Int) (a b : List (List UInt8)) (o : Tx.Cn.Ig) (va vb : Value) (w : World) (ha : HS w va a) (hb : HS w vb b) (hl : 100 < a.length ∨ 100 < b.length) (hal : a.length ≤ 4096) (hbl : b.length ≤ 4096) :
    Calls Tryz.prog 3 #[.int .i64 k, va, vb, Tx.igV o] w fun e w' => e = .returned (.bool true) ∧ Below w.heap.size w w' := by
  obtain ⟨ao, ac, rfl⟩ := Holds.form ha
  obtain ⟨bo, bc, rfl⟩ := Holds.form hb
  have HL : Hid (100 < a.length ∨ 100 < b.length) := hl
  have hB0 := (Below.refl w.heap.size w).alloc (Nat.le_refl _) (igC o)
  have e1 : decide ((4096 : Int) < (a.length : Int)) = false := decide_eq_false (by omega)
  have e2 : decide ((4096 : Int) < (b.length : Int)) = false := decide_eq_false (by omega)
  clear hl
  unfold Tx.igV
  go_enter Tryz.func3, Tryz.ntmps3
  by_cases h1 : 100 < a.length
  · have e3 : decide ((100 : Int) < (a.length : Int)) = true := decide_eq_true (by omega)
    go_wp2
    go_ret
    exact ⟨rfl, hB0⟩
  · have e3 : decide ((100 : Int) < (a.length : Int)) = false := decide_eq_false (by omega)
    have h2 : 100 < b.length := by have := HL.out; omega
    have e4 : decide ((100 : Int) < (b.length : Int)) = true := decide_eq_true (by omega)
    go_wp2
    go_ret
    exact ⟨rfl, hB0⟩

/-- both sides answer the same, whatever the engine -/
theorem both (k : Int) (o : Tx.Cn.Ig) (a b : List (List UInt8)) (hal : a.length ≤ 4096) (hbl : b.length ≤ 4096) (hla : ∀ l ∈ a, l.length ≤ 137438953472) (hlb : ∀ l ∈ b, l.length ≤ 137438953472) : ∃ (L : List Ch) (er : Int), L.length ≤ 1048576 ∧
    (∀ (va vb : Value) (u : World), HS u va a → HS u vb b → Calls Tryz.prog 6 #[.int .i64 k, va, vb, .agg #[.bool o.sp, .bool o.wt, .bool o.bl, .bool o.cs, .bool o.tb, .bool o.tr]] u fun e w' => ∃ v, e = .returned (.tuple #[v, .int .i64 er]) ∧ HCh w' v L ∧ Below u.heap.size u w') ∧
    (∀ (va vb : Value) (u : World), HS u va a → HS u vb b → Calls Tryz.prog 7 #[.int .i64 k, va, vb, .agg #[.bool o.sp, .bool o.wt, .bool o.bl, .bool o.cs, .bool o.tb, .bool o.tr]] u fun e w' => ∃ v, e = .returned (.tuple #[v, .int .i64 er]) ∧ HCh w' v L ∧ Below u.heap.size u w') := by
  by_cases hk : k < 1 ∨ 4 < k
  · refine ⟨[], 5, by simp, fun va vb u _ _ => (En_kind k o va vb u hk).mono ?_, fun va vb u _ _ => (rEn_kind k o va vb u hk).mono ?_⟩
    · rintro e w' ⟨rfl, h⟩
      exact ⟨_, rfl, .inl ⟨rfl, rfl, rfl⟩, h⟩
    · rintro e w' ⟨rfl, h⟩
      exact ⟨_, rfl, .inl ⟨rfl, rfl, rfl⟩, h⟩
  · refine ⟨mkL (eng k (clx o a b) (cly o a b)) b.length, 0, ?_, fun va vb u ha hb => En_f k o a b va vb u ha hb (by omega) hal hbl hla hlb _ rfl, fun va vb u ha hb => rEn_f k o a b va vb u ha hb (by omega) hal hbl hla hlb _ rfl⟩
    have h1 := mk_many (eng k (clx o a b) (cly o a b)) b.length
    rw [(eng_kpt k (clx o a b) (cly o a b)).len, clx_length] at h1
    omega

set_option maxRecDepth 10000 in
set_option maxHeartbeats 4000000 in
theorem all_small (k : Int) (a b : List (List UInt8)) (o : Tx.Cn.Ig) (va vb : Value) (w : World) (hla : ∀ l ∈ a, l.length ≤ 137438953472) (hlb : ∀ l ∈ b, l.length ≤ 137438953472) (ha : HS w va a) (hb : HS w vb b) (hal : a.length ≤ 100) (hbl : b.length ≤ 100) :
    Calls Tryz.prog 3 #[.int .i64 k, va, vb, Tx.igV o] w fun e w' => e = .returned (.bool true) ∧ Below w.heap.size w w' := by
  obtain ⟨ao, ac, rfl⟩ := Holds.form ha
  obtain ⟨bo, bc, rfl⟩ := Holds.form hb
  obtain ⟨L, er, hLl, hD, hR⟩ := both k o a b (by omega) (by omega) hla hlb
  have HD : Hid (∀ (va vb : Value) (u : World), HS u va a → HS u vb b → Calls Tryz.prog 6 #[.int .i64 k, va, vb, .agg #[.bool o.sp, .bool o.wt, .bool o.bl, .bool o.cs, .bool o.tb, .bool o.tr]] u fun e w' => ∃ v, e = .returned (.tuple #[v, .int .i64 er]) ∧ HCh w' v L ∧ Below u.heap.size u w') := hD
  have HR : Hid (∀ (va vb : Value) (u : World), HS u va a → HS u vb b → Calls Tryz.prog 7 #[.int .i64 k, va, vb, .agg #[.bool o.sp, .bool o.wt, .bool o.bl, .bool o.cs, .bool o.tb, .bool o.tr]] u fun e w' => ∃ v, e = .returned (.tuple #[v, .int .i64 er]) ∧ HCh w' v L ∧ Below u.heap.size u w') := hR
  clear hD hR hla hlb
  have hB0 := (Below.refl w.heap.size w).alloc (Nat.le_refl _) (igC o)
  have hBx := Tx.Boxed.fresh o w
  unfold igC at hB0
  have ha0 := HS.keep ha hB0 (Nat.le_refl _)
  have hb0 := HS.keep hb hB0 (Nat.le_refl _)
  have e1 : decide ((4096 : Int) < (a.length : Int)) = false := decide_eq_false (by omega)
  have e2 : decide ((4096 : Int) < (b.length : Int)) = false := decide_eq_false (by omega)
  have e3 : decide ((100 : Int) < (a.length : Int)) = false := decide_eq_false (by omega)
  have e4 : decide ((100 : Int) < (b.length : Int)) = false := decide_eq_false (by omega)
  unfold Tx.igV
  go_enter Tryz.func3, Tryz.ntmps3
  go_wp2_with (at_builtin; refine wpList_append_h _ (by kernel_rfl) (.tmp 74) (.tmp 75) 22 9 (.string ⟨#[]⟩) 1 16 rfl Tryz.underlying22 infoStr rfl (by decide) (by decide) (w.alloc (.cells #[.bool o.sp, .bool o.wt, .bool o.bl, .bool o.cs, .bool o.tb, .bool o.tr] 24)).heap.size _ 0 [] rfl (nil_row_new _ _ _ (by simp) (by simp)) _ a.length (scells a) rfl ?hold1 (by rw [scells_length, Nat.mul_one]) (scells_one a) (by omega) (by simp) ?_)
  case hold1 => exact HS.keep ha0 ((Below.refl _ _).alloc (Nat.le_refl _) _) (Nat.le_refl _)
  intro v1 w1 hown1 hgrow1
  have hz0 : (w.alloc (.cells #[.bool o.sp, .bool o.wt, .bool o.bl, .bool o.cs, .bool o.tb, .bool o.tr] 24)).heap.size = w.heap.size + 1 := by simp
  generalize w.alloc (.cells #[.bool o.sp, .bool o.wt, .bool o.bl, .bool o.cs, .bool o.tb, .bool o.tr] 24) = W0 at *
  have hB1 : Below W0.heap.size W0 w1 := ((Below.refl _ W0).alloc (Nat.le_refl _) _).grown hgrow1 (by simp) (fun j hj => by simp [Value.ownBlock] at hj; omega)
  have hs1 := hB1.size
  have hc1 : HS w1 v1 a := by simpa [HS] using holds_of hown1
  obtain ⟨co, cc, rfl⟩ := Holds.form hc1
  clear hown1 hgrow1
  go_wp2_with (at_builtin; refine wpList_append_h _ (by kernel_rfl) (.tmp 77) (.tmp 78) 22 9 (.string ⟨#[]⟩) 1 16 rfl Tryz.underlying22 infoStr rfl (by decide) (by decide) w1.heap.size _ 0 [] rfl (nil_row_new _ _ _ rfl (by omega)) _ b.length (scells b) rfl ?hold2 (by rw [scells_length, Nat.mul_one]) (scells_one b) (by omega) (by simp) ?_)
  case hold2 => exact HS.keep (HS.keep hb0 hB1 (Nat.le_refl _)) ((Below.refl _ w1).alloc (Nat.le_refl _) _) (Nat.le_refl _)
  intro v2 w2 hown2 hgrow2
  have hB2 : Below w1.heap.size w1 w2 := ((Below.refl _ w1).alloc (Nat.le_refl _) _).grown hgrow2 (by simp) (fun j hj => by simp [Value.ownBlock] at hj; omega)
  have hd2 : HS w2 v2 b := by simpa [HS] using holds_of hown2
  obtain ⟨dso, dc, rfl⟩ := Holds.form hd2
  have hc2 := HS.keep hc1 hB2 (Nat.le_refl _)
  have hB02 : Below W0.heap.size W0 w2 := hB1.trans (hB2.mono hs1)
  have hBx2 := hBx.keep hB02
  clear hown2 hgrow2 hc1 hB1 hB2 hBx
  obtain ⟨d0, d1, d2, d3, d4, d5⟩ := hBx2.cells
  go_wp2_with fail
  refine (HD.out _ _ w2 hc2 hd2).mono ?_
  rintro e w3 ⟨v3, rfl, h3, hB3⟩
  obtain ⟨o3, c3, rfl⟩ := Holds.form h3
  have hB03 : Below W0.heap.size W0 w3 := hB02.trans (hB3.mono hB02.size)
  have hBx3 := hBx2.keep hB3
  clear d0 d1 d2 d3 d4 d5 hBx2
  obtain ⟨d0, d1, d2, d3, d4, d5⟩ := hBx3.cells
  go_wp2_with fail
  refine (HR.out _ _ w3 (HS.keep ha0 hB03 (Nat.le_refl _)) (HS.keep hb0 hB03 (Nat.le_refl _))).mono ?_
  rintro e w4 ⟨v4, rfl, h4, hB4⟩
  obtain ⟨o4, c4, rfl⟩ := Holds.form h4
  have hB04 : Below W0.heap.size W0 w4 := hB03.trans (hB4.mono hB03.size)
  have hB24 : Below w2.heap.size w2 w4 := hB3.trans (hB4.mono hB3.size)
  have h34 := HCh.keep h3 hB4 (Nat.le_refl _)
  clear h3 hB3 hB4 d0 d1 d2 d3 d4 d5 hBx3
  go_wp2_with fail
  refine (SameC_any _ _ L w4 (by omega) h34 h4).mono ?_
  rintro e w7 ⟨rfl, hB7⟩
  have hB07 : Below W0.heap.size W0 w7 := hB04.trans (hB7.mono hB04.size)
  have hB27 : Below w2.heap.size w2 w7 := hB24.trans (hB7.mono hB24.size)
  go_wp2_with fail
  refine (SameS_any _ _ a w7 (by omega) (HS.keep ha0 hB07 (Nat.le_refl _)) (HS.keep hc2 hB27 (Nat.le_refl _))).mono ?_
  rintro e w8 ⟨rfl, hB8⟩
  have hB08 : Below W0.heap.size W0 w8 := hB07.trans (hB8.mono hB07.size)
  have hB28 : Below w2.heap.size w2 w8 := hB27.trans (hB8.mono hB27.size)
  go_wp2_with fail
  refine (SameS_any _ _ b w8 (by omega) (HS.keep hb0 hB08 (Nat.le_refl _)) (HS.keep hd2 hB28 (Nat.le_refl _))).mono ?_
  rintro e w9 ⟨rfl, hB9⟩
  have hB09 : Below W0.heap.size W0 w9 := hB08.trans (hB9.mono hB08.size)
  go_wp2_with fail
  refine (Name_f k w9).mono ?_
  rintro e w10 ⟨rfl, hB10⟩
  have hB010 : Below W0.heap.size W0 w10 := hB09.trans (hB10.mono hB09.size)
  go_wp2_with fail
  refine (rName_f k w10).mono ?_
  rintro e w11 ⟨rfl, rfl⟩
  have hB := hB0.trans (hB010.mono hB0.size)
  generalize enm k = nm
  go_wp2
  go_ret
  exact ⟨ret_bool (by simp), hB⟩

theorem walk (k : Int) (a b : List (List UInt8)) (o : Tx.Cn.Ig) (va vb : Value) (w : World) (hla : ∀ l ∈ a, l.length ≤ 137438953472) (hlb : ∀ l ∈ b, l.length ≤ 137438953472) (ha : HS w va a) (hb : HS w vb b) :
    Calls Tryz.prog 3 #[.int .i64 k, va, vb, Tx.igV o] w fun e w' => e = .returned (.bool true) ∧ Below w.heap.size w w' := by
  by_cases h : a.length ≤ 100 ∧ b.length ≤ 100
  · exact all_small k a b o va vb w hla hlb ha hb h.1 h.2
  · by_cases h2 : a.length ≤ 4096 ∧ b.length ≤ 4096
    · exact let_go k a b o va vb w ha hb (by omega) h2.1 h2.2
    · exact too_long k a b o va vb w hla ha hb (by omega)
set_option maxRecDepth 100000 in
theorem contract (H : Type) (enc : TypeId × Value → H) (W : World) (base : Nat) (args : Array Value) (ds gs : List (DataW H)) (before : List MemPlace)
    (hval : ∀ (j : Nat) t v, Tryz.f3.params[j]? = some t → args[j]? = some v → Value.okWide Tryz.prog W .any base t v)
    (hW : DataW.Whole enc Tryz.prog Tryz.f3.params.toList Rows.engineDiffsSpec.vars false W args.toList ds gs before) (hk : Rows.uptoSmall H (ds ++ gs) = true) :
    Calls Tryz.prog 3 args W fun e W' => ∃ v, e = .returned v ∧ Rows.engineDiffsSpec.post enc Tryz.prog Tryz.f3 false true false false W args v W' := by
  have hW' := hW
  obtain ⟨p, q, hA0, hV, rfl, hfz, hnd⟩ := hW
  have hA : DataW.TrodAll enc Tryz.prog W 0 (fun _ => true) true Tryz.f3.params.toList args.toList ds p := hA0
  rw [Tryz.params3] at hA hval
  obtain ⟨v0, vs0, d0, ds0, p0, q0, hargs, rfl, rfl, h0, r0⟩ := trodAll_cons hA
  obtain ⟨v1, vs1, d1, ds1, p1, q1, rfl, rfl, rfl, h1, r1⟩ := trodAll_cons r0
  obtain ⟨v2, vs2, d2, ds2, p2, q2, rfl, rfl, rfl, h2, r2⟩ := trodAll_cons r1
  obtain ⟨v3, vs3, d3, ds3, p3, q3, rfl, rfl, rfl, h3, r3⟩ := trodAll_cons r2
  obtain ⟨rfl, rfl, rfl⟩ := trodAll_nil r3
  obtain rfl : args = #[v0, v1, v2, v3] := by cases args; simp_all
  obtain ⟨rfl, rfl⟩ := trodVars_none hV
  obtain ⟨a1, len1, cap1, rfl⟩ := okWide_slice Tryz.underlying22 (hval 1 22 v1 rfl rfl)
  have k1 := h1
  have lt1 : ∀ x ∈ p1, x.block < W.heap.size := by obtain ⟨m, hm⟩ := k1; exact DataW.trod_lt m _ _ _ hm
  obtain ⟨a2, len2, cap2, rfl⟩ := okWide_slice Tryz.underlying22 (hval 2 22 v2 rfl rfl)
  have k2 := h2
  have lt2 : ∀ x ∈ p2, x.block < W.heap.size := by obtain ⟨m, hm⟩ := k2; exact DataW.trod_lt m _ _ _ hm
  obtain ⟨n0, rfl, rfl, rfl, wn0⟩ := open_int Tryz.underlying3 (hval 0 3 v0 rfl rfl) h0
  clear hA0
  simp only [List.append_nil] at hk
  have hbk : Rows.uptoBulkAll [.lit (.int .i64 n0), d1, d2, d3] ≤ 1048576 := of_decide_eq_true hk
  simp only [Rows.uptoBulkAll] at hbk
  obtain ⟨f1, hf1⟩ := h1
  obtain ⟨ws1, hv1, hwl1⟩ := Tx.open_texts (by simpa [Value.cells] using hf1)
  have he1 : ∀ a ∈ ws1, a.length ≤ 137438953472 := fun a ha => by have := Tx.each_le a ha; omega
  obtain ⟨f2, hf2⟩ := h2
  obtain ⟨ws2, hv2, hwl2⟩ := Tx.open_texts (by simpa [Value.cells] using hf2)
  have he2 : ∀ a ∈ ws2, a.length ≤ 137438953472 := fun a ha => by have := Tx.each_le a ha; omega
  obtain ⟨o, rfl, rfl, rfl⟩ := Tx.open_ig (hval 3 24 v3 rfl rfl) h3
  have hw := walk n0 ws1 ws2 o (.slice a1 len1 cap1) (.slice a2 len2 cap2) W he1 he2 (hs_of hv1) (hs_of hv2)
  refine hw.mono fun e W' ⟨he, bel⟩ => ?_
  subst he
  exact ⟨_, rfl, _, _, _, [], _, [], hW', trodAll_mk1 (shut_bool Tryz.underlying4 _), trodAll_cons_mk (shut_int Tryz.underlying3 wn0) (trodAll_cons_mk (Below.trod Tx.laidOut (by kernel_rfl) (of_decide_eq_true (by kernel_rfl)) k1 bel lt1) (trodAll_cons_mk (Below.trod Tx.laidOut (by kernel_rfl) (of_decide_eq_true (by kernel_rfl)) k2 bel lt2) (trodAll_cons_mk (Tx.shut_ig o) trodAll_mk0))), rfl, bel.frame _, fun h => by cases h⟩

theorem laid_met (os : Os) : laidMet Tryz.prog Rows.engineDiffsUptoRow.laid ((Tx.laidOnU (World.holding Tryz.prog os ⟨#[], #[], []⟩)).forCall (fun _ _ => 0) ⟨#[], #[.int .i64 0, .slice none 0 0, .slice none 0 0, .agg #[.bool false, .bool false, .bool false, .bool false, .bool false, .bool false]], []⟩).memory :=
  laidMet_of_run' 8 (by kernel_rfl) (by kernel_rfl)
theorem reads (os : Os) {H : Type} (enc : TypeId × Value → H) : ∃ places, DataW.whole enc Tryz.prog ((Tx.laidOnU (World.holding Tryz.prog os ⟨#[], #[], []⟩)).forCall (fun _ _ => 0) ⟨#[], #[.int .i64 0, .slice none 0 0, .slice none 0 0, .agg #[.bool false, .bool false, .bool false, .bool false, .bool false, .bool false]], []⟩).memory Tryz.f3.params.toList Rows.engineDiffsSpec.vars false #[Value.int .i64 0, Value.slice none 0 0, Value.slice none 0 0, Value.agg #[.bool false, .bool false, .bool false, .bool false, .bool false, .bool false]].toList 8 = some ([.lit (.int .i64 0), .nil, .nil, .agg [.lit (.bool false), .lit (.bool false), .lit (.bool false), .lit (.bool false), .lit (.bool false), .lit (.bool false)]], [], places) :=
  ⟨[], by kernel_rfl⟩

set_option maxRecDepth 100000 in
theorem lifted (os : Os) (started : os.Started) (H : Type) (enc : TypeId × Value → H) (F : Stop.Interp) :
    ReturnsInHanded {} Tryz.checked os 3 .any ((Rows.OpenSpec.upto Rows.engineDiffsSpec).preRow enc Tryz.prog Tryz.f3 Rows.engineDiffsUptoRow.domain false Rows.engineDiffsUptoRow.laid) (((Rows.OpenSpec.upto Rows.engineDiffsSpec).at F).post enc Tryz.prog Tryz.f3 false true false false) := by
  obtain ⟨places, hx⟩ := reads os enc
  refine returnsInHanded_of_row (C := Tryz.checked) (s := Rows.OpenSpec.upto Rows.engineDiffsSpec) Tx.own started (by kernel_rfl) Tryz.func3
    (witness_row_at (enc := enc) (C := Tryz.checked) false (Tx.laidOnU (World.holding Tryz.prog os ⟨#[], #[], []⟩)) #[.int .i64 0, .slice none 0 0, .slice none 0 0, .agg #[.bool false, .bool false, .bool false, .bool false, .bool false, .bool false]] rfl (by kernel_rfl) (by kernel_rfl) (by kernel_rfl)
      (OpenSpec.preRow_of_cond 8 hx (by kernel_rfl) (fun k hk => by cases hk; kernel_rfl) (by kernel_rfl) (laid_met os))) ?_
  intro W base args ds gs before hval hW _ hcond _ _ _ _
  exact contract H enc W base args ds gs before hval hW (hcond _ rfl)

theorem said : Rows.EngineDiffsUptoSaid :=
  OpenClaim.holds_of_cond 3 Tryz.f3 rfl rfl rfl rfl rfl rfl rfl ⟨rfl, rfl, rfl, rfl, rfl⟩ rfl rfl rfl rfl rfl (by kernel_rfl) Tryz.func3 (by kernel_rfl)
    (of_decide_eq_true (by kernel_rfl)) (by unfold Func.isWrapper; first | (rw [if_pos (by decide +kernel)]; kernel_rfl) | (rw [if_neg (by decide +kernel)]; exact ⟨rfl, rfl⟩))
    (fun os started H enc _ F => by rw [OpenClaim.pre_eq_preRow]; exact lifted os started H enc F)

theorem plain (f : FuncId) (fn : Func) (hf : Tryz.pinned.checked.prog.funcNamed "redline/redlinelaw10.EngineDiffs" = some f) (hfn : Tryz.pinned.checked.prog.funcs[f]? = some fn) :
    false = Tryz.pinned.checked.prog.looks [] ∧ ∀ (j : Nat) t, fn.params[j]? = some t → Tryz.pinned.checked.prog.wantsStandIn t = false := by
  obtain rfl : f = 3 := Option.some.inj ((show Tryz.prog.funcNamed "redline/redlinelaw10.EngineDiffs" = some 3 by kernel_rfl).symm.trans hf) |>.symm
  obtain rfl : fn = Tryz.f3 := (Option.some.inj (Tryz.func3.symm.trans hfn)).symm
  refine ⟨by kernel_rfl, fun j t ht => ?_⟩
  rw [Tryz.params3] at ht
  have hm : t = 3 ∨ t = 22 ∨ t = 22 ∨ t = 24 := by simpa using Array.mem_of_getElem? ht
  rcases hm with rfl | rfl | rfl | rfl
  · exact (show Tryz.prog.wantsStandIn 3 = false by kernel_rfl)
  · exact (show Tryz.prog.wantsStandIn 22 = false by kernel_rfl)
  · exact (show Tryz.prog.wantsStandIn 22 = false by kernel_rfl)
  · exact (show Tryz.prog.wantsStandIn 24 = false by kernel_rfl)

theorem card : Rows.EngineDiffsUptoCardSaid :=
  Claim7.holds_tied_plain_at .later [] _ _ _ _ said (fun _ h => by cases h) (by kernel_rfl) (fun _ h => by cases h) engineDiffsUpto_row_tie rfl ⟨rfl, rfl⟩ (by kernel_rfl) rfl plain (by kernel_rfl)
#print axioms card
end Go.Proofs.YtjhanfiohfakoaaGreatDoor.engineDiffs
