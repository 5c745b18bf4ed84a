/-
  Numbers of classes, as plain lists: the number of a form among those met, the forms met behind it, a whole list's numbers.
-/
import Derived.Maps.OwnSet
namespace Go.Proofs.YtkaadahcefdiiaaDoor
namespace It
open Go.Maps

/-- a form's number among the forms met: how many there are, where it is new -/
def num (fs : List (List UInt8)) (f : List UInt8) : Nat := fs.idxOf f
/-- the forms met, once a form was shown -/
def add (fs : List (List UInt8)) (f : List UInt8) : List (List UInt8) := if fs.contains f then fs else fs ++ [f]
/-- the numbers of forms that are shown in order -/
def nums : List (List UInt8) → List (List UInt8) → List Nat
  | _, [] => []
  | fs, f :: r => num fs f :: nums (add fs f) r
/-- the forms met, once all of these were shown -/
def adds (fs r : List (List UInt8)) : List (List UInt8) := r.foldl add fs

theorem adds_cons (fs : List (List UInt8)) (f : List UInt8) (r : List (List UInt8)) : adds fs (f :: r) = adds (add fs f) r := rfl
theorem adds_append (fs a b : List (List UInt8)) : adds fs (a ++ b) = adds (adds fs a) b := List.foldl_append
theorem nums_append : ∀ (a fs b : List (List UInt8)), nums fs (a ++ b) = nums fs a ++ nums (adds fs a) b
  | [], _, _ => rfl
  | f :: r, fs, b => by rw [List.cons_append, nums, nums_append r, nums, List.cons_append, adds_cons]
theorem nums_snoc (fs a : List (List UInt8)) (f : List UInt8) : nums fs (a ++ [f]) = nums fs a ++ [num (adds fs a) f] := by rw [nums_append]; rfl
theorem adds_snoc (fs a : List (List UInt8)) (f : List UInt8) : adds fs (a ++ [f]) = add (adds fs a) f := by rw [adds_append]; rfl
theorem nums_length : ∀ (r fs : List (List UInt8)), (nums fs r).length = r.length
  | [], _ => rfl
  | f :: r, fs => by rw [nums, List.length_cons, nums_length r, List.length_cons]
theorem add_le (fs : List (List UInt8)) (f : List UInt8) : (add fs f).length ≤ fs.length + 1 := by unfold add; split <;> simp
theorem adds_le : ∀ (r fs : List (List UInt8)), (adds fs r).length ≤ fs.length + r.length
  | [], _ => Nat.le_refl _
  | f :: r, fs => by
    have h1 := adds_le r (add fs f)
    have h2 := add_le fs f
    rw [adds_cons, List.length_cons]
    omega
theorem num_le (fs : List (List UInt8)) (f : List UInt8) : num fs f ≤ fs.length := List.idxOf_le_length
theorem num_lt {fs : List (List UInt8)} {f : List UInt8} (h : f ∈ fs) : num fs f < fs.length := List.idxOf_lt_length_iff.2 h
theorem num_new {fs : List (List UInt8)} {f : List UInt8} (h : f ∉ fs) : num fs f = fs.length := List.idxOf_eq_length h
theorem add_old {fs : List (List UInt8)} {f : List UInt8} (h : f ∈ fs) : add fs f = fs := by rw [add, if_pos (List.contains_iff_mem.2 h)]
theorem add_new {fs : List (List UInt8)} {f : List UInt8} (h : f ∉ fs) : add fs f = fs ++ [f] := by rw [add, if_neg (fun e => h (List.contains_iff_mem.1 e))]
theorem mem_add_self (fs : List (List UInt8)) (f : List UInt8) : f ∈ add fs f := by
  by_cases h : f ∈ fs
  · rw [add_old h]; exact h
  · rw [add_new h]; simp
theorem mem_add {fs : List (List UInt8)} {g : List UInt8} (h : g ∈ fs) (f : List UInt8) : g ∈ add fs f := by
  by_cases hf : f ∈ fs
  · rw [add_old hf]; exact h
  · rw [add_new hf]; simp [h]
theorem num_add {fs : List (List UInt8)} {g : List UInt8} (h : g ∈ fs) (f : List UInt8) : num (add fs f) g = num fs g := by
  by_cases hf : f ∈ fs
  · rw [add_old hf]
  · rw [add_new hf]; unfold num; rw [List.idxOf_append, if_pos h]
theorem num_add_self (fs : List (List UInt8)) (f : List UInt8) : num (add fs f) f = num fs f := by
  by_cases h : f ∈ fs
  · rw [add_old h]
  · rw [add_new h, num_new h]; unfold num; rw [List.idxOf_append, if_neg h]; simp
theorem mem_adds : ∀ (r : List (List UInt8)) {fs : List (List UInt8)} {g : List UInt8}, g ∈ fs → g ∈ adds fs r
  | [], _, _, h => h
  | f :: r, _, _, h => mem_adds r (mem_add h f)
theorem num_adds : ∀ (r : List (List UInt8)) {fs : List (List UInt8)} {g : List UInt8}, g ∈ fs → num (adds fs r) g = num fs g
  | [], _, _, _ => rfl
  | f :: r, fs, g, h => by rw [adds_cons, num_adds r (mem_add h f), num_add h f]
theorem mem_adds_self : ∀ (r : List (List UInt8)) (fs : List (List UInt8)), ∀ g ∈ r, g ∈ adds fs r
  | f :: r, fs, g, h => by
    rw [adds_cons]
    rcases List.mem_cons.1 h with rfl | h
    · exact mem_adds r (mem_add_self fs g)
    · exact mem_adds_self r _ g h
/-- each number is that among all that were met in the end -/
theorem nums_eq : ∀ (r fs : List (List UInt8)), nums fs r = r.map (num (adds fs r))
  | [], _ => rfl
  | f :: r, fs => by
    rw [nums, nums_eq r, List.map_cons, adds_cons, num_adds r (mem_add_self fs f), num_add_self]
theorem adds_old : ∀ (r : List (List UInt8)) {fs : List (List UInt8)}, (∀ g ∈ r, g ∈ fs) → adds fs r = fs
  | [], _, _ => rfl
  | f :: r, fs, h => by
    rw [adds_cons, add_old (h f (by simp)), adds_old r (fun g hg => h g (by simp [hg]))]
theorem adds_again (r fs : List (List UInt8)) : adds (adds fs r) r = adds fs r := adds_old r (mem_adds_self r fs)
theorem nums_again (r fs : List (List UInt8)) : nums (adds fs r) r = nums fs r := by rw [nums_eq, nums_eq, adds_again]
theorem num_inj {fs : List (List UInt8)} {f g : List UInt8} (hf : f ∈ fs) (hg : g ∈ fs) : num fs f = num fs g ↔ f = g := by
  constructor
  · intro h
    have h1 := List.getElem_idxOf (num_lt hf)
    have h2 := List.getElem_idxOf (num_lt hg)
    unfold num at h
    exact h1.symm.trans ((getElem_congr_idx h).trans h2)
  · intro h; rw [h]

/-- a map that holds the forms met, each with its number -/
structure Tells {H : Type} (D : DataW H) (fs : List (List UInt8)) : Prop where
  tidy : Tidy D
  size : Maps.size D = fs.length
  has : ∀ f, Maps.has D (.string f) = fs.contains f
  at_ : ∀ f ∈ fs, D.atKey (.string f) (.lit (.int .i64 0)) = .lit (.int .i64 (num fs f))

theorem Tells.nil {H : Type} : Tells (H := H) (.map []) [] := ⟨tidy_empty, rfl, fun _ => rfl, fun f h => by cases h⟩
theorem Tells.put {H : Type} {D : DataW H} {fs : List (List UInt8)} (h : Tells D fs) {f : List UInt8} (hf : f ∉ fs) : Tells (D.put (.string f) (.lit (.int .i64 fs.length))) (fs ++ [f]) := by
  have hk : WideAt.IsKeyLit (.string f) := trivial
  have hne : ∀ {g : List UInt8}, g ≠ f → (Lit.string g) ≠ .string f := fun hg e => hg (by cases e; rfl)
  refine ⟨h.tidy.put hk _, ?_, fun g => ?_, fun g hg => ?_⟩
  · rw [size_put h.tidy, h.has, if_neg (fun e => hf (List.contains_iff_mem.1 e)), h.size]; simp
  · by_cases e : g = f
    · subst e
      rw [has_put_same h.tidy.isMap hk]; simp
    · rw [has_put_other (hne e), h.has]; simp [e]
  · by_cases e : g = f
    · subst e
      rw [atKey_put_same h.tidy.isMap hk, ← add_new hf, num_add_self, num_new hf]
    · have hg' : g ∈ fs := by simpa [e] using hg
      rw [atKey_put_other (hne e), h.at_ g hg', ← add_new hf, num_add hg']
/-- what a look-up finds -/
theorem Tells.look {H : Type} {D : DataW H} {fs : List (List UInt8)} (h : Tells D fs) {f : List UInt8} {c : Int} (hc : D.atKey (.string f) (.lit (.int .i64 0)) = .lit (.int .i64 c)) : c = if fs.contains f then (num fs f : Int) else 0 := by
  by_cases hf : f ∈ fs
  · rw [h.at_ f hf] at hc
    rw [if_pos (List.contains_iff_mem.2 hf)]
    cases hc; rfl
  · have hn : fs.contains f = false := Bool.eq_false_iff.2 (fun e => hf (List.contains_iff_mem.1 e))
    rw [atKey_of_not_has (by rw [h.has, hn])] at hc
    rw [if_neg (by rw [hn]; exact Bool.false_ne_true)]
    cases hc; rfl
end It
end Go.Proofs.YtkaadahcefdiiaaDoor
