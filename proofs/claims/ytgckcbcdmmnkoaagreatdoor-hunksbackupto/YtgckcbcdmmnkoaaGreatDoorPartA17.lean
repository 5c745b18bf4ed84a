/-
  Texts that belong together, joined: LnShelf, LnMath, HuLm, HuLn, HuC2, HuC3, HuWk.
-/
import Derived.Shelf.Strings.Search3
import Derived.Test.YtgckcbcdmmnkoaaGreatDoorProg
import Derived.Lib.Bytealg
import Derived.Lib.Join
import Derived.Test.YtgckcbcdmmnkoaaGreatDoorPartA4
import Derived.Test.YtgckcbcdmmnkoaaGreatDoorPartA5
import Derived.BigQuiet
import Derived.Test.YtgckcbcdmmnkoaaGreatDoorPartA7

/- Contracts of the library at this program: the program bears the bodies that they speak of. Taken: strings_Index_one. -/
namespace Go.Proofs
open Go.Shelf
def Tryz.lays143_ren : Go.Shelf.Ren := ⟨fun | 143 => 54 | 219 => 73 | 217 => 86 | 225 => 87 | 224 => 88 | 267 => 89 | 266 => 110 | 314 => 111 | n => n, fun | 9 => 9 | 3 => 3 | 4 => 4 | 5 => 5 | 46 => 144 | 146 => 168 | 51 => 167 | n => n, fun | 1 => 0 | n => n⟩
theorem Tryz.lays143 : Go.Proofs.Lays.n143 Tryz.prog Tryz.lays143_ren := {
  mixed := by kernel_rfl
  f143 := Tryz.func54.trans (congrArg some (by kernel_rfl))
  f217 := Tryz.func86.trans (congrArg some (by kernel_rfl))
  f219 := Tryz.func73.trans (congrArg some (by kernel_rfl))
  f224 := Tryz.func88.trans (congrArg some (by kernel_rfl))
  f225 := Tryz.func87.trans (congrArg some (by kernel_rfl))
  f266 := Tryz.func110.trans (congrArg some (by kernel_rfl))
  f267 := Tryz.func89.trans (congrArg some (by kernel_rfl))
  f314 := Tryz.func111.trans (congrArg some (by kernel_rfl))
  t3 := Tryz.underlying3
  a3 := Tryz.isAgg3
  z3 := Tryz.sizeOf3
  v3 := Tryz.zeroValue3
  t4 := Tryz.underlying4
  a4 := Tryz.isAgg4
  z4 := Tryz.sizeOf4
  v4 := Tryz.zeroValue4
  t5 := Tryz.underlying5
  a5 := Tryz.isAgg5
  z5 := Tryz.sizeOf5
  v5 := Tryz.zeroValue5
  t9 := Tryz.underlying9
  a9 := Tryz.isAgg9
  z9 := Tryz.sizeOf9
  v9 := Tryz.zeroValue9
  t46 := Tryz.underlying144
  a46 := Tryz.isAgg144
  z46 := Tryz.sizeOf144
  v46 := Tryz.zeroValue144
  t51 := Tryz.underlying167
  a51 := Tryz.isAgg167
  z51 := Tryz.sizeOf167
  v51 := Tryz.zeroValue167
  t146 := Tryz.underlying168
  a146 := Tryz.isAgg168
  z146 := Tryz.sizeOf168
  v146 := Tryz.zeroValue168
  g1 := by kernel_rfl }
open Go.RowKit Go.Lib in
theorem Tryz.strings_Index_one (s : ByteArray) (c : UInt8) (w : World) :
    Calls Tryz.prog 54 #[.string s, .string ⟨#[c]⟩] w fun e w' => e = .returned (.int .i64 (Lib.indexByte s.data.toList c)) ∧ w' = w := Any.strings_Index_one Tryz.lays143 s c w
end Go.Proofs

/- Plain facts on texts as lists of bytes: their lines, whether lines are right, the first byte in which two texts differ, a line without its line feed. -/
set_option maxRecDepth 20000
namespace Go.Proofs.YtgckcbcdmmnkoaaGreatDoor.Ln
open Go

/-- the lines of a text -/
def splitL : List UInt8 → List (List UInt8)
  | [] => []
  | c :: t => if c = 10 then [c] :: splitL t else match splitL t with
    | [] => [[c]]
    | x :: r => (c :: x) :: r

theorem split_cut (a b : List UInt8) (h : ∀ c ∈ a, c ≠ 10) : splitL (a ++ 10 :: b) = (a ++ [10]) :: splitL b := by
  induction a with
  | nil => simp [splitL]
  | cons c a ih =>
    have hc : c ≠ 10 := h c (by simp)
    have := ih fun x hx => h x (by simp [hx])
    simp only [List.cons_append, splitL, hc, if_false, this]

theorem split_one (a : List UInt8) (h : ∀ c ∈ a, c ≠ 10) (h0 : a ≠ []) : splitL a = [a] := by
  induction a with
  | nil => exact absurd rfl h0
  | cons c a ih =>
    have hc : c ≠ 10 := h c (by simp)
    cases a with
    | nil => simp [splitL, hc]
    | cons d a =>
      have := ih (fun x hx => h x (by simp [hx])) (by simp)
      simp only [splitL, hc, if_false] at this ⊢
      rw [this]

theorem split_join (l : List UInt8) : (splitL l).flatten = l := by
  induction l with
  | nil => rfl
  | cons c t ih =>
    unfold splitL
    by_cases hc : c = 10
    · simp [hc, ih]
    · simp only [hc, if_false]
      cases hs : splitL t with
      | nil => rw [hs] at ih; simp at ih; simp [← ih]
      | cons x r => rw [hs] at ih; simp at ih; simp [ih]

theorem split_len (l : List UInt8) : (splitL l).length ≤ l.length := by
  induction l with
  | nil => simp [splitL]
  | cons c t ih =>
    unfold splitL
    by_cases hc : c = 10
    · simp [hc]; omega
    · simp only [hc, if_false]
      cases hs : splitL t with
      | nil => simp
      | cons x r => rw [hs] at ih; simp at ih ⊢; omega

theorem split_nil {l : List UInt8} (h : splitL l = []) : l = [] := by
  have := split_join l
  rw [h] at this
  simpa using this.symm

/-- whether a text is a line; the last one may lack its line feed -/
def lineB : List UInt8 → Bool → Bool
  | [], _ => false
  | [c], last => last || c == 10
  | c :: d :: t, last => c != 10 && lineB (d :: t) last

def checkB : List (List UInt8) → Bool
  | [] => true
  | s :: t => lineB s t.isEmpty && checkB t

/-- what Check tells -/
def checkE (l : List (List UInt8)) : Int := if checkB l then 0 else 6

theorem lineB_cons (c : UInt8) (x : List UInt8) (last : Bool) (hx : x ≠ []) : lineB (c :: x) last = (c != 10 && lineB x last) := by
  cases x with
  | nil => exact absurd rfl hx
  | cons d t => rfl

theorem lineB_ne {x : List UInt8} {last : Bool} (h : lineB x last = true) : x ≠ [] := by rintro rfl; cases h

theorem lineB_false {x : List UInt8} (h : lineB x false = true) : ∃ a, x = a ++ [10] ∧ ∀ c ∈ a, c ≠ 10 := by
  induction x with
  | nil => cases h
  | cons c t ih =>
    cases t with
    | nil => exact ⟨[], by simpa [lineB] using h, by simp⟩
    | cons d t =>
      simp only [lineB, Bool.and_eq_true, bne_iff_ne] at h
      obtain ⟨a, ha, hn⟩ := ih h.2
      refine ⟨c :: a, by rw [ha]; rfl, ?_⟩
      intro x hx
      simp only [List.mem_cons] at hx
      rcases hx with rfl | hx
      · exact h.1
      · exact hn x hx

theorem lineB_true {x : List UInt8} (h : lineB x true = true) : lineB x false = true ∨ ∀ c ∈ x, c ≠ 10 := by
  induction x with
  | nil => cases h
  | cons c t ih =>
    cases t with
    | nil =>
      by_cases hc : c = 10
      · exact .inl (by simp [lineB, hc])
      · exact .inr (by simpa using hc)
    | cons d t =>
      simp only [lineB, Bool.and_eq_true, bne_iff_ne] at h
      rcases ih h.2 with h2 | h2
      · exact .inl (by simp only [lineB, Bool.and_eq_true, bne_iff_ne]; exact ⟨h.1, h2⟩)
      · refine .inr ?_
        intro x hx
        simp only [List.mem_cons] at hx
        rcases hx with rfl | hx
        · exact h.1
        · exact h2 x (by simpa using hx)

theorem split_right (l : List UInt8) : checkB (splitL l) = true := by
  induction l with
  | nil => rfl
  | cons c t ih =>
    unfold splitL
    by_cases hc : c = 10
    · simp [hc, checkB, lineB, ih]
    · simp only [hc, if_false]
      cases hs : splitL t with
      | nil => simp [checkB, lineB]
      | cons x r =>
        rw [hs] at ih
        simp only [checkB, Bool.and_eq_true] at ih ⊢
        rw [lineB_cons c x _ (lineB_ne ih.1)]
        simp [hc, ih.1, ih.2]

/-- right lines are the lines of the text that they make -/
theorem right_split (ws : List (List UInt8)) (h : checkB ws = true) : splitL ws.flatten = ws := by
  induction ws with
  | nil => rfl
  | cons x r ih =>
    simp only [checkB, Bool.and_eq_true] at h
    have hr := ih h.2
    cases r with
    | nil =>
      simp only [List.flatten_cons, List.flatten_nil, List.append_nil]
      rcases lineB_true (by simpa using h.1) with h1 | h1
      · obtain ⟨a, rfl, hn⟩ := lineB_false h1
        rw [split_cut a [] hn]; rfl
      · exact split_one x h1 (lineB_ne h.1)
    | cons y r =>
      obtain ⟨a, rfl, hn⟩ := lineB_false (by simpa using h.1)
      rw [List.flatten_cons, List.append_assoc]
      rw [show a ++ ([10] ++ (y :: r).flatten) = a ++ 10 :: (y :: r).flatten from rfl, split_cut a _ hn, hr]

theorem index_none {l : List UInt8} {c : UInt8} (h : Lib.indexByte l c < 0) : Lib.indexByte l c = -1 ∧ ∀ x ∈ l, x ≠ c := by
  induction l with
  | nil => exact ⟨rfl, by simp⟩
  | cons b l ih =>
    unfold Lib.indexByte at h ⊢
    by_cases hb : (b == c) = true
    · rw [if_pos hb] at h; simp at h
    · rw [if_neg hb] at h ⊢
      by_cases h1 : (Lib.indexByte l c == -1) = true
      · rw [if_pos h1]
        have h2 := ih (by simp at h1; omega)
        refine ⟨rfl, ?_⟩
        intro x hx
        simp only [List.mem_cons] at hx
        rcases hx with rfl | hx
        · simpa using hb
        · exact h2.2 x hx
      · rw [if_neg h1] at h
        have := Lib.indexByte_ge l c
        simp at h1
        omega

theorem index_some {l : List UInt8} {c : UInt8} (h : 0 ≤ Lib.indexByte l c) : ∃ a b, l = a ++ c :: b ∧ (∀ x ∈ a, x ≠ c) ∧ Lib.indexByte l c = a.length := by
  induction l with
  | nil => simp [Lib.indexByte] at h
  | cons d l ih =>
    unfold Lib.indexByte at h ⊢
    by_cases hb : (d == c) = true
    · have : d = c := by simpa using hb
      subst this
      rw [if_pos hb]
      exact ⟨[], l, rfl, by simp, rfl⟩
    · rw [if_neg hb] at h ⊢
      by_cases h1 : (Lib.indexByte l c == -1) = true
      · rw [if_pos h1] at h; simp at h
      · rw [if_neg h1] at h ⊢
        have := Lib.indexByte_ge l c
        obtain ⟨a, b, e1, e2, e3⟩ := ih (by simp at h1; omega)
        refine ⟨d :: a, b, by rw [e1]; rfl, ?_, by rw [e3]; simp⟩
        intro x hx
        simp only [List.mem_cons] at hx
        rcases hx with rfl | hx
        · simpa using hb
        · exact e2 x hx

theorem lineB_all {x : List UInt8} (h : ∀ c ∈ x, c ≠ 10) (last : Bool) : lineB x last = (last && !x.isEmpty) := by
  induction x with
  | nil => simp [lineB]
  | cons c t ih =>
    cases t with
    | nil =>
      have : c ≠ 10 := h c (by simp)
      simp [lineB, this]
    | cons d t =>
      rw [lineB, ih fun x hx => h x (by simp [hx])]
      have : c ≠ 10 := h c (by simp)
      simp [this]

theorem lineB_cut {a b : List UInt8} (h : ∀ c ∈ a, c ≠ 10) (last : Bool) : lineB (a ++ 10 :: b) last = b.isEmpty := by
  induction a with
  | nil =>
    cases b with
    | nil => simp [lineB]
    | cons d b => simp [lineB]
  | cons c a ih =>
    have hc : c ≠ 10 := h c (by simp)
    rw [List.cons_append, lineB_cons _ _ _ (by simp), ih fun x hx => h x (by simp [hx])]
    simp [hc]

/-- how many bytes at their fronts two texts have alike -/
def commonN : List UInt8 → List UInt8 → Nat
  | x :: a, y :: b => if x = y then commonN a b + 1 else 0
  | _, _ => 0

theorem common_le (a b : List UInt8) : commonN a b ≤ a.length ∧ commonN a b ≤ b.length := by
  induction a generalizing b with
  | nil => cases b <;> simp [commonN]
  | cons x a ih =>
    cases b with
    | nil => simp [commonN]
    | cons y b =>
      have := ih b
      unfold commonN
      split <;> simp <;> omega

theorem common_comm (a b : List UInt8) : commonN a b = commonN b a := by
  induction a generalizing b with
  | nil => cases b <;> rfl
  | cons x a ih =>
    cases b with
    | nil => rfl
    | cons y b =>
      unfold commonN
      by_cases h : x = y
      · rw [if_pos h, if_pos h.symm, ih b]
      · rw [if_neg h, if_neg (fun e => h e.symm)]

theorem common_take (a b : List UInt8) : a.take (commonN a b) = b.take (commonN a b) := by
  induction a generalizing b with
  | nil => cases b <;> simp [commonN]
  | cons x a ih =>
    cases b with
    | nil => simp [commonN]
    | cons y b =>
      unfold commonN
      by_cases h : x = y
      · rw [if_pos h, List.take_succ_cons, List.take_succ_cons, ih b, h]
      · rw [if_neg h]; rfl

theorem common_ne (a b : List UInt8) (h1 : commonN a b < a.length) (h2 : commonN a b < b.length) : a[commonN a b] ≠ b[commonN a b] := by
  induction a generalizing b with
  | nil => simp at h1
  | cons x a ih =>
    cases b with
    | nil => simp at h2
    | cons y b =>
      by_cases h : x = y
      · have e : commonN (x :: a) (y :: b) = commonN a b + 1 := by simp [commonN, h]
        simp only [e, List.length_cons] at h1 h2
        have := ih b (by omega) (by omega)
        simpa [e] using this
      · have e : commonN (x :: a) (y :: b) = 0 := by simp [commonN, h]
        simpa [e] using h

theorem common_full {a b : List UInt8} (h1 : commonN a b = a.length) (h2 : commonN a b = b.length) : a = b := by
  have := common_take a b
  rw [List.take_of_length_le (by omega), List.take_of_length_le (by omega)] at this
  exact this

theorem common_self (a : List UInt8) : commonN a a = a.length := by
  induction a with
  | nil => rfl
  | cons x a ih => simp [commonN, ih]

/-- one step further -/
theorem common_step {a b : List UInt8} {k : Nat} (hk : k ≤ commonN a b) (ha : k < a.length) (hb : k < b.length) (he : a[k] = b[k]) : k + 1 ≤ commonN a b := by
  rcases Nat.lt_or_ge k (commonN a b) with h | h
  · exact h
  · have e : commonN a b = k := by omega
    have := common_ne a b (by omega) (by omega)
    simp only [e] at this
    exact absurd he this

theorem common_stop {a b : List UInt8} {k : Nat} (hk : k ≤ commonN a b) (ha : k < a.length) (hb : k < b.length) (he : a[k] ≠ b[k]) : commonN a b = k := by
  rcases Nat.lt_or_ge k (commonN a b) with h | h
  · have h1 := common_take a b
    have h2 : (a.take (commonN a b))[k]? = (b.take (commonN a b))[k]? := by rw [h1]
    rw [List.getElem?_take_of_lt h, List.getElem?_take_of_lt h] at h2
    simp only [ha, hb, List.getElem?_eq_getElem, Option.some.injEq] at h2
    exact absurd h2 he
  · omega

theorem common_end {a b : List UInt8} {k : Nat} (hk : k ≤ commonN a b) (h : a.length ≤ k ∨ b.length ≤ k) : commonN a b = k := by
  have := common_le a b
  omega

/-- the first byte in which two texts differ, and its line -/
def firstN (a b : List UInt8) : Nat := if a = b then 0 else commonN a b + 1
def firstL (a b : List UInt8) : Nat := if a = b then 0 else (a.take (commonN a b)).count 10 + 1
def firstB (a b : List UInt8) : Bool := !(decide (a = b))

/-- a line without its line feed -/
def feedB (s : List UInt8) : Bool := s.getLast? == some 10
def bareL (s : List UInt8) : List UInt8 := if feedB s then s.dropLast else s

/-- whole lines -/
theorem split_count (l : List UInt8) : l.count 10 = (splitL l).length - (if feedB l || l.isEmpty then 0 else 1) := by
  induction l with
  | nil => rfl
  | cons c t ih =>
    unfold splitL
    by_cases hc : c = 10
    · subst hc
      cases t with
      | nil => simp [feedB, splitL]
      | cons d t =>
        have e : feedB (10 :: d :: t) = feedB (d :: t) := by simp [feedB]
        have h1 : 0 < (splitL (d :: t)).length := by
          rcases Nat.eq_zero_or_pos (splitL (d :: t)).length with h | h
          · have := split_nil (List.eq_nil_of_length_eq_zero h); simp at this
          · exact h
        rw [e]
        simp only [List.count_cons_self, ih, if_true, List.length_cons, List.isEmpty_cons]
        split <;> omega
    · simp only [hc, if_false]
      cases t with
      | nil => simp [feedB, splitL, hc]
      | cons d t =>
        have e : feedB (c :: d :: t) = feedB (d :: t) := by simp [feedB]
        rw [e, List.count_cons_of_ne hc, ih]
        cases hs : splitL (d :: t) with
        | nil => have := split_nil hs; simp at this
        | cons x r => simp

/-- the last line has a line feed just if the text has one at its end -/
theorem split_last (l : List UInt8) (h : splitL l ≠ []) : feedB ((splitL l).getLast h) = feedB l := by
  have hj := split_join l
  have hr := split_right l
  generalize splitL l = ws at *
  subst hj
  induction ws with
  | nil => exact absurd rfl h
  | cons x r ih =>
    simp only [checkB, Bool.and_eq_true] at hr
    cases r with
    | nil => simp
    | cons y r =>
      have := ih (by simp) hr.2
      rw [List.getLast_cons (by simp), this]
      have hne : (y :: r).flatten ≠ [] := by
        simp only [checkB, Bool.and_eq_true] at hr
        have := lineB_ne hr.2.1
        simp [this]
      have e : (x :: y :: r).flatten = x ++ (y :: r).flatten := List.flatten_cons
      rw [e]
      generalize (y :: r).flatten = z at *
      unfold feedB
      rw [List.getLast?_append]
      cases hl : z.getLast? with
      | none => exact absurd (List.getLast?_eq_none_iff.1 hl) hne
      | some z => rfl

theorem split_cat (a b : List UInt8) (h : a = [] ∨ feedB a = true) : splitL (a ++ b) = splitL a ++ splitL b := by
  induction a with
  | nil => rfl
  | cons c t ih =>
    have hf : feedB (c :: t) = true := by rcases h with h | h; · cases h
                                          · exact h
    have ht : t = [] ∨ feedB t = true := by
      cases t with
      | nil => exact .inl rfl
      | cons d t => exact .inr (by simpa [feedB] using hf)
    have := ih ht
    have s1 : splitL (c :: t) = if c = 10 then [c] :: splitL t else match splitL t with | [] => [[c]] | x :: r => (c :: x) :: r := rfl
    have s2 : splitL (c :: (t ++ b)) = if c = 10 then [c] :: splitL (t ++ b) else match splitL (t ++ b) with | [] => [[c]] | x :: r => (c :: x) :: r := rfl
    rw [List.cons_append, s1, s2]
    by_cases hc : c = 10
    · simp [hc, this]
    · simp only [hc, if_false, this]
      cases hs : splitL t with
      | nil =>
        have := split_nil hs
        subst this
        simp [feedB] at hf
        exact absurd hf hc
      | cons x r => rfl

/-- the last line of the first and the first of the second are one -/
theorem split_glue (a b : List UInt8) (ha : a ≠ []) (hf : feedB a = false) (hb : b ≠ []) : ∃ p x y q, splitL a = p ++ [x] ∧ splitL b = y :: q ∧ splitL (a ++ b) = p ++ (x ++ y) :: q := by
  induction a with
  | nil => exact absurd rfl ha
  | cons c t ih =>
    cases t with
    | nil =>
      have hc : c ≠ 10 := by simpa [feedB] using hf
      cases hs : splitL b with
      | nil => exact absurd (split_nil hs) hb
      | cons y q =>
        refine ⟨[], [c], y, q, by simp [splitL, hc], rfl, ?_⟩
        rw [List.cons_append, List.nil_append]
        unfold splitL
        simp [hc, hs]
    | cons d t =>
      obtain ⟨p, x, y, q, e1, e2, e3⟩ := ih (by simp) (by simpa [feedB] using hf)
      rw [List.cons_append]
      have s1 : splitL (c :: (d :: t)) = if c = 10 then [c] :: splitL (d :: t) else match splitL (d :: t) with | [] => [[c]] | x :: r => (c :: x) :: r := rfl
      have s2 : splitL (c :: (d :: t ++ b)) = if c = 10 then [c] :: splitL (d :: t ++ b) else match splitL (d :: t ++ b) with | [] => [[c]] | x :: r => (c :: x) :: r := rfl
      rw [s1, s2, e1, e3]
      by_cases hc : c = 10
      · exact ⟨[c] :: p, x, y, q, by simp [hc], e2, by simp [hc]⟩
      · simp only [hc, if_false]
        cases p with
        | nil => exact ⟨[], c :: x, y, q, rfl, e2, rfl⟩
        | cons z p => exact ⟨(c :: z) :: p, x, y, q, rfl, e2, rfl⟩

theorem join_nil_sep (xs : List (List UInt8)) : Lib.join xs [] = xs.flatten := by
  induction xs with
  | nil => rfl
  | cons x r ih =>
    rw [Lib.join_cons]
    simp [Lib.joinTail]

theorem flatten_le {ws : List (List UInt8)} {n : Nat} (h : ∀ a ∈ ws, a.length ≤ n) : ws.flatten.length ≤ ws.length * n := by
  induction ws with
  | nil => simp
  | cons x r ih =>
    have h1 := h x (by simp)
    have h2 := ih fun a ha => h a (by simp [ha])
    simp only [List.flatten_cons, List.length_append, List.length_cons, Nat.add_mul]
    omega
end Go.Proofs.YtgckcbcdmmnkoaaGreatDoor.Ln

/- What the code's Check of layer 11 asks of a hunk's lines is what the chapter asks; plain mathematics. -/
set_option maxRecDepth 20000
namespace Go.Proofs.YtgckcbcdmmnkoaaGreatDoor
open Ln

theorem lineB_eq (s : List UInt8) (last : Bool) : lineB s last = (linB s && (last || fdB s)) := by
  induction s with
  | nil => rfl
  | cons c t ih =>
    cases t with
    | nil =>
      simp [lineB, linB, fdB]
    | cons d t =>
      have e1 : linB (c :: d :: t) = (c != 10 && linB (d :: t)) := by
        simp [linB, List.dropLast]
      have e2 : fdB (c :: d :: t) = fdB (d :: t) := by simp [fdB]
      rw [e1, e2, Bool.and_assoc, ← ih]
      rfl
/-- all signs are known -/
def allB (l : List Mk) : Bool := l.all fun m => okS m.sg
theorem pk_none {sg no : Int} (h : sg = 45 ∧ no = 43 ∨ sg = 43 ∧ no = 45) {l : List Mk} (hl : allB l = true) : (pkL no l).isEmpty = lstB sg l := by
  induction l with
  | nil => rfl
  | cons m l ih =>
    simp only [allB, List.all_cons, Bool.and_eq_true] at hl
    have ih := ih hl.2
    have hm := hl.1
    simp only [okS, Bool.or_eq_true, decide_eq_true_eq] at hm
    simp only [pkL, lstB, List.all_cons]
    have key : (m.sg ≠ no ∧ okS m.sg = true) ↔ ¬ (m.sg ≠ sg ∧ m.sg ≠ 32) := by
      constructor
      · rintro ⟨k1, _⟩ k2
        rcases h with ⟨rfl, rfl⟩ | ⟨rfl, rfl⟩ <;> omega
      · intro k
        refine ⟨fun k1 => ?_, hl.1⟩
        rcases h with ⟨rfl, rfl⟩ | ⟨rfl, rfl⟩ <;> omega
    by_cases q : m.sg ≠ sg ∧ m.sg ≠ 32
    · rw [if_neg (fun k => key.1 k q), ih, decide_eq_true q.1, decide_eq_true q.2]
      rfl
    · rw [if_pos (key.2 q)]
      have : (decide (m.sg ≠ sg) && decide (m.sg ≠ 32)) = false := by
        rw [← Bool.not_eq_true, Bool.and_eq_true, decide_eq_true_eq, decide_eq_true_eq]
        exact q
      rw [this]
      rfl
/-- the chapter's rule on lines, as the code says it -/
theorem fld_code (l : List Mk) : fldB l = (allB l && checkB (pkL 43 l) && checkB (pkL 45 l)) := by
  induction l with
  | nil => rfl
  | cons m l ih =>
    have e0 : allB (m :: l) = (okS m.sg && allB l) := rfl
    rw [e0]
    cases ha : allB l with
    | false =>
      rw [ha] at ih
      have ih : fldB l = false := by rw [ih]; rfl
      simp [fldB, ih]
    | true =>
      rw [ha] at ih
      have p1 := pk_none (.inl ⟨rfl, rfl⟩) ha
      have p2 := pk_none (.inr ⟨rfl, rfl⟩) ha
      obtain ⟨sg, tx⟩ := m
      simp only [fldB]
      rw [ih]
      by_cases h1 : sg = 32
      · subst h1
        have q1 : pkL 43 (⟨32, tx⟩ :: l) = tx :: pkL 43 l := by rw [pkL, if_pos (by dsimp only; decide)]
        have q2 : pkL 45 (⟨32, tx⟩ :: l) = tx :: pkL 45 l := by rw [pkL, if_pos (by dsimp only; decide)]
        rw [q1, q2]
        simp only [checkB, lineB_eq, p1, p2, okS]
        cases linB tx <;> cases fdB tx <;> cases lstB 45 l <;> cases lstB 43 l <;> cases checkB (pkL 43 l) <;> cases checkB (pkL 45 l) <;> rfl
      · by_cases h2 : sg = 45
        · subst h2
          have q1 : pkL 43 (⟨45, tx⟩ :: l) = tx :: pkL 43 l := by rw [pkL, if_pos (by dsimp only; decide)]
          have q2 : pkL 45 (⟨45, tx⟩ :: l) = pkL 45 l := by rw [pkL, if_neg (by dsimp only; decide)]
          rw [q1, q2]
          simp only [checkB, lineB_eq, p1, okS]
          cases linB tx <;> cases fdB tx <;> cases lstB 45 l <;> cases lstB 43 l <;> cases checkB (pkL 43 l) <;> cases checkB (pkL 45 l) <;> rfl
        · by_cases h3 : sg = 43
          · subst h3
            have q1 : pkL 43 (⟨43, tx⟩ :: l) = pkL 43 l := by rw [pkL, if_neg (by dsimp only; decide)]
            have q2 : pkL 45 (⟨43, tx⟩ :: l) = tx :: pkL 45 l := by rw [pkL, if_pos (by dsimp only; decide)]
            rw [q1, q2]
            simp only [checkB, lineB_eq, p2, okS]
            cases linB tx <;> cases fdB tx <;> cases lstB 45 l <;> cases lstB 43 l <;> cases checkB (pkL 43 l) <;> cases checkB (pkL 45 l) <;> rfl
          · have q : okS sg = false := by simp [okS, h1, h2, h3]
            simp [q]
end Go.Proofs.YtgckcbcdmmnkoaaGreatDoor

/- Check of layer lines, walked at rows of texts; slices.ContainsFunc, walked at lines with signs. -/
set_option maxRecDepth 20000
namespace Go.Proofs.YtgckcbcdmmnkoaaGreatDoor
open Ln Go.RowKit

set_option maxHeartbeats 1000000 in
theorem isLine_any (l : List UInt8) (last : Bool) (w : World) (hl : l.length ≤ 1099511627776) (r : Bool) (HR : Hid (lineB l last = r)) :
    Calls Tryz.prog 46 #[.string ⟨l.toArray⟩, .bool last] w fun e w' => e = .returned (.bool r) ∧ w = w' := by
  rcases Int.lt_or_le (Lib.indexByte l 10) 0 with hq | hq
  · obtain ⟨q1, q2⟩ := index_none hq
    have HE : Hid ((last && !l.isEmpty) = r) := (by show _ = _; rw [← HR.out]; exact (lineB_all q2 last).symm)
    clear hq q2 HR
    go_enter Tryz.func46, Tryz.ntmps46
    go_wp2_with fail
    refine (Tryz.strings_Index_one ⟨l.toArray⟩ 10 _).mono ?_
    rintro e w1 ⟨rfl, rfl⟩
    have hi2 : Lib.indexByte (⟨l.toArray⟩ : ByteArray).data.toList 10 = -1 := q1
    rw [hi2]
    cases last with
    | false =>
      go_wp2
      go_ret
      rw [← HE.out]
      exact ⟨rfl, rfl⟩
    | true =>
      cases l with
      | nil =>
        go_wp2
        go_ret
        rw [← HE.out]
        exact ⟨rfl, rfl⟩
      | cons c t =>
        go_wp2
        go_ret
        rw [← HE.out]
        exact ⟨rfl, rfl⟩
  · obtain ⟨a, b, he, hn, hi⟩ := index_some hq
    have HE : Hid (b.isEmpty = r) := (by
      show _ = _
      rw [← HR.out, he]
      exact (lineB_cut hn last).symm)
    have hlen : l.length = a.length + 1 + b.length := by rw [he]; simp; omega
    clear hn hq he HR
    go_enter Tryz.func46, Tryz.ntmps46
    go_wp2_with fail
    refine (Tryz.strings_Index_one ⟨l.toArray⟩ 10 _).mono ?_
    rintro e w1 ⟨rfl, rfl⟩
    have hi2 : Lib.indexByte (⟨l.toArray⟩ : ByteArray).data.toList 10 = a.length := hi
    rw [hi2]
    cases b with
    | nil =>
      have hb : ((a.length : Int) == (l.length : Int) - 1) = true := by simp at hlen; simp; omega
      clear hlen
      go_wp2
      go_ret
      rw [← HE.out]
      exact ⟨rfl, rfl⟩
    | cons c t =>
      have hb : ((a.length : Int) == (l.length : Int) - 1) = false := by simp at hlen; rw [beq_eq_false_iff_ne]; omega
      clear hlen
      go_wp2
      go_ret
      rw [← HE.out]
      exact ⟨rfl, rfl⟩

set_option maxHeartbeats 1000000 in
theorem hlCheck_f (v : Value) (ws : List (List UInt8)) (w : World) (hl : ws.length ≤ 1099511627776) (he : ∀ a ∈ ws, a.length ≤ 1099511627776) (hv : HS w v ws) (r : Bool) (HR : Hid (checkB ws = r)) (z : Int) (HZ : Hid (z = if r = true then 0 else 6)) :
    Calls Tryz.prog 35 #[v] w fun e w' => e = .returned (.int .i64 z) ∧ w = w' := by
  obtain ⟨ao, c, rfl⟩ := Holds.form hv
  have HL : Hid (∀ a ∈ ws, a.length ≤ 1099511627776) := he
  clear he
  go_enter Tryz.func35, Tryz.ntmps35
  go_wp2
  go_loopw [3, 4, 7] (fun _ _ i wr => ∃ k : Nat, k ≤ ws.length ∧ i = .int .i64 k ∧ wr = w ∧ Hid (checkB (ws.drop k) = r)) (fun _ _ i _ => ws.length - (intOf i).toNat)
  case atStart => exact ⟨0, Nat.zero_le _, rfl, rfl, HR⟩
  case round =>
    obtain ⟨k, hk, rfl, rfl, HI⟩ := hrel
    clear HR
    by_cases hlt : k < ws.length
    · obtain ⟨b, off, rfl, _, hc⟩ := HS.at hv (by omega)
      have d1 := hc k hlt
      have hxl := HL.out ws[k] (List.getElem_mem hlt)
      have i1 : 0 ≤ (k : Int) := by omega
      have i2 : (k : Int) < (ws.length : Int) := by omega
      have HM : (ws.drop (k + 1)).isEmpty = ((k : Int) == (ws.length : Int) - 1) := by
        rw [Bool.eq_iff_iff, List.isEmpty_iff, List.drop_eq_nil_iff, beq_iff_eq]; omega
      have HD : Hid ((lineB ws[k] (ws.drop (k + 1)).isEmpty && checkB (ws.drop (k + 1))) = r) := (by
        have h := HI.out
        rw [List.drop_eq_getElem_cons hlt] at h
        exact h)
      rw [HM] at HD
      generalize hq : ((k : Int) == (ws.length : Int) - 1) = q at *
      generalize ws[k] = x at *
      obtain ⟨r1, hr1⟩ : ∃ r1, lineB x q = r1 := ⟨_, rfl⟩
      have HR1 : Hid (lineB x q = r1) := hr1
      rw [hr1] at HD
      clear hr1 HI HM hc
      go_wp2_with fail
      refine (isLine_any x q _ hxl r1 HR1).mono ?_
      rintro e w1 ⟨rfl, rfl⟩
      cases r1 with
      | false =>
        have HZ2 : Hid (z = 6) := (by
          have h := HD.out
          rw [Bool.false_and] at h
          show _ = _
          rw [HZ.out, ← h]
          rfl)
        clear HZ
        go_wp2
        go_ret
        rw [HZ2.out]
        exact ⟨rfl, rfl⟩
      | true =>
        have HE : Hid (checkB (ws.drop (k + 1)) = r) := (by have h := HD.out; rw [Bool.true_and] at h; exact h)
        go_wp2
        go_roundw
        case rel => exact ⟨k + 1, by omega, by go_num, by trivial, HE⟩
        case measure => simp [intOf]; omega
    · have HZ2 : Hid (z = 0) := (by
        have h := HI.out
        rw [List.drop_of_length_le (by omega)] at h
        show _ = _
        rw [HZ.out, ← h]
        rfl)
      clear HZ HI
      have hend : decide ((k : Int) < (ws.length : Int)) = false := decide_eq_false (by omega)
      go_wp2
      go_ret
      rw [HZ2.out]
      exact ⟨rfl, rfl⟩

/-- slices.IndexFunc, slices.ContainsFunc: the function may lay blocks -/
theorem idx_any {l : List Mk} {p : Mk → Bool} {k : Nat} (hk : k < l.length) : (l.drop k).any p = (p l[k] || (l.drop (k + 1)).any p) := by
  rw [List.drop_eq_getElem_cons hk, List.any_cons]
set_option maxRecDepth 10000 in
set_option maxHeartbeats 2000000 in
theorem hIndexFunc_f (g : Nat) (l : List Mk) (p : Mk → Bool) (v : Value) (w : World) (hv : HMk w v l) (hl : l.length ≤ 1099511627776) (eg : ∀ args w, (callFunc g args).run Tryz.prog w = .ok (.enter g args) w)
    (hf : Hid (∀ m ∈ l, ∀ u : World, Calls Tryz.prog g (#[.agg #[.int .u8 m.sg, .string ⟨m.tx.toArray⟩]] ++ #[]) u fun e u' => e = .returned (.bool (p m)) ∧ Below u.heap.size u u')) (r : Bool) (HR : Hid (l.any p = r)) :
    Calls Tryz.prog 45 #[v, .func (.func g) #[] #[]] w fun e w' => ∃ z : Int, e = .returned (.int .i64 z) ∧ decide (0 ≤ z) = r ∧ Below w.heap.size w w' := by
  obtain ⟨lo, lc, rfl⟩ := HMk.form hv
  go_enter Tryz.func45, Tryz.ntmps45
  go_wp2
  go_loopw [5, 8] (fun _ i wr => ∃ k : Nat, k ≤ l.length ∧ i = .int .i64 k ∧ Below w.heap.size w wr ∧ Hid ((l.drop k).any p = r)) (fun _ i _ => l.length - (intOf i).toNat)
  case atStart => exact ⟨0, Nat.zero_le _, rfl, Below.refl _ _, HR⟩
  case round =>
    obtain ⟨k, hk, rfl, hB, HI⟩ := hrel
    clear HR
    by_cases hlt : k < l.length
    · obtain ⟨b, off, rfl, hb, _⟩ := HMk.at hv (by omega)
      obtain ⟨m, hm⟩ : ∃ m, l[k] = m := ⟨_, rfl⟩
      obtain ⟨c0, c1⟩ := Low.mk hB hv k hlt hm
      have hc := hf.out m (by rw [← hm]; exact List.getElem_mem hlt) wr
      have i1 : 0 ≤ (k : Int) := by omega
      have i2 : (k : Int) < (l.length : Int) := by omega
      have HI2 : Hid ((p m || (l.drop (k + 1)).any p) = r) := (by
        have h := HI.out
        rw [idx_any hlt, hm] at h
        exact h)
      obtain ⟨q, hq⟩ : ∃ q, p m = q := ⟨_, rfl⟩
      rw [hq] at hc HI2
      clear HI hm hq
      cases q with
      | true =>
        have HE : Hid (true = r) := (by have h := HI2.out; rw [Bool.true_or] at h; exact h)
        clear HI2
        go_wp2_with (go_at_fn g; refine hc.mono ?_; rintro e w' ⟨rfl, hB1⟩)
        go_ret
        exact ⟨_, rfl, by rw [← HE.out]; exact decide_eq_true (by omega), hB.trans (hB1.mono hB.size)⟩
      | false =>
        have HE : Hid ((l.drop (k + 1)).any p = r) := (by have h := HI2.out; rw [Bool.false_or] at h; exact h)
        clear HI2
        go_wp2_with (go_at_fn g; refine hc.mono ?_; rintro e w' ⟨rfl, hB1⟩)
        exact ⟨⟨k + 1, by omega, by go_num, hB.trans (hB1.mono hB.size), HE⟩, by simp [intOf]; omega⟩
    · have HE : Hid (false = r) := (by
        have h := HI.out
        rw [List.drop_of_length_le (by omega)] at h
        exact h)
      clear HI
      have hend : decide ((k : Int) < (l.length : Int)) = false := decide_eq_false (by omega)
      go_wp2
      go_ret
      exact ⟨_, rfl, HE.out, hB⟩
theorem hContains_f (g : Nat) (l : List Mk) (p : Mk → Bool) (v : Value) (w : World) (hv : HMk w v l) (hl : l.length ≤ 1099511627776) (eg : ∀ args w, (callFunc g args).run Tryz.prog w = .ok (.enter g args) w)
    (hf : Hid (∀ m ∈ l, ∀ u : World, Calls Tryz.prog g (#[.agg #[.int .u8 m.sg, .string ⟨m.tx.toArray⟩]] ++ #[]) u fun e u' => e = .returned (.bool (p m)) ∧ Below u.heap.size u u')) (r : Bool) (HR : Hid (l.any p = r)) :
    Calls Tryz.prog 33 #[v, .func (.func g) #[] #[]] w fun e w' => e = .returned (.bool r) ∧ Below w.heap.size w w' := by
  have HC := hIndexFunc_f g l p v w hv hl eg hf r HR
  obtain ⟨lo, lc, rfl⟩ := HMk.form hv
  go_enter Tryz.func33, Tryz.ntmps33
  go_wp2_with fail
  refine HC.mono ?_
  rintro e w1 ⟨z, rfl, hz, hB⟩
  go_wp2
  go_ret
  exact ⟨rfl, hB⟩
end Go.Proofs.YtgckcbcdmmnkoaaGreatDoor

/- The code's Check of layer 11, walked. -/
set_option maxRecDepth 20000
namespace Go.Proofs.YtgckcbcdmmnkoaaGreatDoor
open Ln Go.RowKit

theorem rng_nm (h : Hk) : rngB h = (nmB h.A h.AN && nmB h.B h.BN) := by
  unfold rngB nmB
  cases nat31 h.A <;> cases nat31 h.AN <;> cases nat31 h.B <;> cases nat31 h.BN <;> cases decide (h.A = 0) <;> cases decide (0 < h.AN) <;> cases decide (h.B = 0) <;> cases decide (0 < h.BN) <;> rfl
theorem pk_mem {no : Int} {l : List Mk} {a : List UInt8} (h : a ∈ pkL no l) : ∃ m ∈ l, m.tx = a := by
  induction l with
  | nil => cases h
  | cons m l ih =>
    simp only [pkL] at h
    split at h
    · rcases List.mem_cons.1 h with rfl | h
      · exact ⟨m, by simp, rfl⟩
      · obtain ⟨x, hx, e⟩ := ih h
        exact ⟨x, by simp [hx], e⟩
    · obtain ⟨x, hx, e⟩ := ih h
      exact ⟨x, by simp [hx], e⟩
theorem chk_rng {h : Hk} (hq : rngB h = false) : chkH h = 2 := by
  unfold chkH
  rw [if_pos hq]
theorem chk_fld {h : Hk} (h1 : rngB h = true) (hq : fldB h.ls = false) : chkH h = 6 := by
  unfold chkH
  rw [if_neg (by rw [h1]; decide), if_pos hq]
theorem chk_cnt {h : Hk} (h1 : rngB h = true) (h2 : fldB h.ls = true) (hq : h.AN ≠ (oldL h).length ∨ h.BN ≠ (newL h).length) : chkH h = 120 := by
  unfold chkH
  rw [if_neg (by rw [h1]; decide), if_neg (by rw [h2]; decide), if_pos hq]
theorem all_chg {l : List Mk} (ha : allB l = true) : l.all (fun m => decide (m.sg = 32)) = !l.any chgB := by
  induction l with
  | nil => rfl
  | cons m l ih =>
    simp only [allB, List.all_cons, Bool.and_eq_true] at ha
    simp only [List.all_cons, List.any_cons]
    rw [ih ha.2]
    have hm := ha.1
    simp only [okS, Bool.or_eq_true, decide_eq_true_eq] at hm
    unfold chgB
    rcases hm with (hm | hm) | hm <;> rw [hm] <;> simp
theorem chk_end {h : Hk} (h1 : rngB h = true) (h2 : fldB h.ls = true) (h3 : h.AN = (oldL h).length) (h4 : h.BN = (newL h).length) {q : Bool} (hq : h.ls.any chgB = q) : chkH h = if q = true then 0 else 50 := by
  unfold chkH
  rw [if_neg (by rw [h1]; decide), if_neg (by rw [h2]; decide), if_neg (fun k => by rcases k with k | k <;> contradiction)]
  have ha : allB h.ls = true := by
    have := fld_code h.ls
    rw [h2] at this
    simp only [Bool.true_eq, Bool.and_eq_true] at this
    exact this.1.1
  rw [all_chg ha, hq]
  cases q <;> rfl
theorem any_strange (l : List Mk) : l.any (fun m => !okS m.sg) = !allB l := by
  induction l with
  | nil => rfl
  | cons m l ih =>
    simp only [List.any_cons, allB, List.all_cons, Bool.not_and] at ih ⊢
    rw [ih]
theorem hold_held {h : Hk} {v : Value} {W u : World} (hv : HMk W v h.ls) (hl : h.ls.length ≤ 1099511627776) {R : List (List UInt8)} (HR : Hid (oldL h = R)) (hL : Low W u) : Calls Tryz.prog 13 (#[hkV h v] ++ #[]) u fun e w' => ∃ x, e = .returned x ∧ Low W w' ∧ (HS w' x R ∧ Below u.heap.size u w') := by
  refine (hOld_f h v u (HMk.keep hv hL (Nat.le_refl _)) hl R HR).mono ?_
  rintro e w' ⟨x, rfl, hx, hB⟩
  exact ⟨_, rfl, hL.trans (hB.mono hL.size), hx, hB⟩
theorem hnew_held {h : Hk} {v : Value} {W u : World} (hv : HMk W v h.ls) (hl : h.ls.length ≤ 1099511627776) {R : List (List UInt8)} (HR : Hid (newL h = R)) (hL : Low W u) : Calls Tryz.prog 14 (#[hkV h v] ++ #[]) u fun e w' => ∃ x, e = .returned x ∧ Low W w' ∧ (HS w' x R ∧ Below u.heap.size u w') := by
  refine (hNew_f h v u (HMk.keep hv hL (Nat.le_refl _)) hl R HR).mono ?_
  rintro e w' ⟨x, rfl, hx, hB⟩
  exact ⟨_, rfl, hL.trans (hB.mono hL.size), hx, hB⟩

set_option maxRecDepth 10000 in
set_option maxHeartbeats 4000000 in
theorem hCheck_f (h : Hk) (v : Value) (w : World) (hv : HMk w v h.ls) (hl : h.ls.length ≤ 1099511627776) (htx : ∀ m ∈ h.ls, m.tx.length ≤ 1099511627776) (r : Int) (HR : Hid (chkH h = r)) : Calls Tryz.prog 21 #[hkV h v] w fun e w' => e = .returned (.int .i64 r) ∧ Below w.heap.size w w' := by
  obtain ⟨A, AN, B, BN, ls⟩ := h
  dsimp only at hv hl htx
  obtain ⟨lo, lc, rfl⟩ := HMk.form hv
  have hx := Hx.new w ⟨A, AN, B, BN, ls⟩ (.slice lo ls.length lc)
  have hBl : Below w.heap.size w (w.alloc (hkO ⟨A, AN, B, BN, ls⟩ (.slice lo ls.length lc))) := (Below.refl _ w).alloc (Nat.le_refl _) _
  have hv1 := HMk.keep hv hBl (Nat.le_refl _)
  have HTX : Hid (∀ m ∈ ls, m.tx.length ≤ 1099511627776) := htx
  clear htx hv
  obtain ⟨x0, x1, x2, x3, x4⟩ := hx.cells
  unfold hkV
  dsimp only at x0 x1 x2 x3 x4 ⊢
  have hW0 : w.alloc (hkO ⟨A, AN, B, BN, ls⟩ (.slice lo ls.length lc)) = w.alloc (Obj.cells #[Value.int IntKind.i64 A, Value.int IntKind.i64 AN, Value.int IntKind.i64 B, Value.int IntKind.i64 BN, .slice lo ls.length lc] 39) := rfl
  generalize w.alloc (hkO ⟨A, AN, B, BN, ls⟩ (.slice lo ls.length lc)) = W at *
  have hW := hW0.symm
  clear hW0
  obtain ⟨p1, hp1⟩ : ∃ p, nmB A AN = p := ⟨_, rfl⟩
  obtain ⟨p2, hp2⟩ : ∃ p, nmB B BN = p := ⟨_, rfl⟩
  have HG : Hid (rngB ⟨A, AN, B, BN, ls⟩ = (p1 && p2)) := (by show _ = _; rw [rng_nm, ← hp1, ← hp2])
  have HP1 : Hid (nmB A AN = p1) := hp1
  have HP2 : Hid (nmB B BN = p2) := hp2
  clear hp1 hp2
  go_enter Tryz.func21, Tryz.ntmps21
  go_wp2_with fail
  refine (hnumbered_f A AN W p1 HP1).mono ?_
  rintro e w1 ⟨rfl, rfl⟩
  clear hW HP1
  cases p1 with
  | false =>
    have HE : Hid (2 = r) := (by show _ = _; rw [← HR.out, chk_rng (by rw [HG.out]; rfl)])
    clear HR HG
    go_wp2
    go_ret
    exact ⟨by rw [← HE.out]; rfl, hBl⟩
  | true =>
  go_wp2_with fail
  refine (hnumbered_f B BN w1 p2 HP2).mono ?_
  rintro e W ⟨rfl, rfl⟩
  clear HP2
  cases p2 with
  | false =>
    have HE : Hid (2 = r) := (by show _ = _; rw [← HR.out, chk_rng (by rw [HG.out]; rfl)])
    clear HR HG
    go_wp2
    go_ret
    exact ⟨by rw [← HE.out]; rfl, hBl⟩
  | true =>
    obtain ⟨RO, hRO⟩ : ∃ r, oldL ⟨A, AN, B, BN, ls⟩ = r := ⟨_, rfl⟩
    obtain ⟨RN, hRN⟩ : ∃ r, newL ⟨A, AN, B, BN, ls⟩ = r := ⟨_, rfl⟩
    have HO : Hid (oldL ⟨A, AN, B, BN, ls⟩ = RO) := hRO
    have HN : Hid (newL ⟨A, AN, B, BN, ls⟩ = RN) := hRN
    have HF : Hid (fldB ls = (allB ls && checkB RO && checkB RN)) := (by show _ = _; rw [← hRO, ← hRN]; exact fld_code ls)
    have hROl : RO.length ≤ 1099511627776 := by rw [← hRO]; have := pkL_length 43 ls; simp only [oldL]; omega
    have hRNl : RN.length ≤ 1099511627776 := by rw [← hRN]; have := pkL_length 45 ls; simp only [newL]; omega
    have HROm : Hid (∀ a ∈ RO, a.length ≤ 1099511627776) := (by
      intro a ha
      rw [← hRO] at ha
      obtain ⟨m, hm, rfl⟩ := pk_mem ha
      exact HTX.out m hm)
    have HRNm : Hid (∀ a ∈ RN, a.length ≤ 1099511627776) := (by
      intro a ha
      rw [← hRN] at ha
      obtain ⟨m, hm, rfl⟩ := pk_mem ha
      exact HTX.out m hm)
    clear hRO hRN HTX
    have hxx : ∀ u : World, Low W u → Hx u w.heap.size ⟨A, AN, B, BN, ls⟩ (.slice lo ls.length lc) := fun u hu => hx.low hu
    go_upto_region 3 with fail
    go_cut [3, 4] from 5 to 51 (fun a b wz => ∃ oo oc no nc, a = .slice oo RO.length oc ∧ b = .slice no RN.length nc ∧ HS wz a RO ∧ HS wz b RN ∧ Below W.heap.size W wz)
    case first =>
      have hlow : Low W (W.drewN 1) := Below.dN (Below.refl _ W) 1
      refine wp_region_noPanic ?_
      refine wp_region_held_drew (S := fun u => Low W u) (by kernel_rfl) hlow (fun hHeld => ?_)
      refine go_take 0 19 _ (hkV ⟨A, AN, B, BN, ls⟩ (.slice lo ls.length lc)) rfl (by kernel_rfl) (by kernel_rfl) (by kernel_rfl) (by kernel_rfl) (fun _ _ _ h => h) (Or.inl ⟨by kernel_rfl, fun u hu => load_hk (hxx u hu) (.tmp 1) (by kernel_rfl) (by kernel_rfl)⟩) hHeld ?_
      simp only [Act.put, List.setIfInBounds_toArray, List.set_cons_zero, List.set_cons_succ]
      refine go_take 2 21 _ (hkV ⟨A, AN, B, BN, ls⟩ (.slice lo ls.length lc)) rfl (by kernel_rfl) (by kernel_rfl) (by kernel_rfl) (by kernel_rfl) (fun _ _ _ h => h) (Or.inl ⟨by kernel_rfl, fun u hu => load_hk (hxx u hu) (.tmp 1) (by kernel_rfl) (by kernel_rfl)⟩) hHeld ?_
      simp only [Act.put, List.setIfInBounds_toArray, List.set_cons_zero, List.set_cons_succ]
      refine go_callE 1 20 _ rfl (by kernel_rfl) (by kernel_rfl) (by kernel_rfl) 13 (.func 13) #[.tmp 19] #[39] (by kernel_rfl) #[] (by kernel_rfl) #[hkV ⟨A, AN, B, BN, ls⟩ (.slice lo ls.length lc)] (by kernel_rfl) (enters_of Tryz.func13 (by kernel_rfl) rfl) _ (hold_held hv1 hl HO hHeld) ?_
      rintro vo w1 hHeld1 ⟨hvo, hBo⟩
      obtain ⟨oo, oc, rfl⟩ := Holds.form hvo
      simp only [Act.put, List.setIfInBounds_toArray, List.set_cons_zero, List.set_cons_succ]
      refine go_callE 3 22 _ rfl (by kernel_rfl) (by kernel_rfl) (by kernel_rfl) 14 (.func 14) #[.tmp 21] #[39] (by kernel_rfl) #[] (by kernel_rfl) #[hkV ⟨A, AN, B, BN, ls⟩ (.slice lo ls.length lc)] (by kernel_rfl) (enters_of Tryz.func14 (by kernel_rfl) rfl) _ (hnew_held hv1 hl HN hHeld1) ?_
      rintro vn w2 hHeld ⟨hvn, hBn⟩
      obtain ⟨no, nc, rfl⟩ := Holds.form hvn
      simp only [Act.put, List.setIfInBounds_toArray, List.set_cons_zero, List.set_cons_succ]
      refine go_take 4 3 _ (.slice oo RO.length oc) rfl (by kernel_rfl) (by kernel_rfl) (by kernel_rfl) (by kernel_rfl) (fun _ _ _ h => h) (Or.inl ⟨by kernel_rfl, fun u hu => by kernel_rfl⟩) hHeld ?_
      simp only [Act.put, List.setIfInBounds_toArray, List.set_cons_zero, List.set_cons_succ]
      refine go_take 5 4 _ (.slice no RN.length nc) rfl (by kernel_rfl) (by kernel_rfl) (by kernel_rfl) (by kernel_rfl) (fun _ _ _ h => h) (Or.inl ⟨by kernel_rfl, fun u hu => by kernel_rfl⟩) hHeld ?_
      simp only [Act.put, List.setIfInBounds_toArray, List.set_cons_zero, List.set_cons_succ]
      refine wpAnyH_done (by kernel_rfl) ?_ _
      refine NoPanic.normal ?_
      go_wp2_with fail
      go_meet
      case rel => exact ⟨_, _, _, _, rfl, rfl, HS.keep hvo hBn (Nat.le_refl _), hvn, hHeld⟩
    case rest =>
      obtain ⟨oo, oc, no, nc, rfl, rfl, hvo, hvn, hBz⟩ := hcut
      have hB2 := hBl.trans (hBz.mono hBl.size)
      obtain ⟨y0, y1, y2, y3, y4⟩ := (hxx _ hBz).cells
      dsimp only at y0 y1 y2 y3 y4
      have hv2 := HMk.keep hv1 hBz (Nat.le_refl _)
      generalize wc = w2 at *
      clear x0 x1 x2 x3 x4
      obtain ⟨s, hs⟩ : ∃ s, allB ls = s := ⟨_, rfl⟩
      have HS1 : Hid (ls.any (fun m => !okS m.sg) = !s) := (by show _ = _; rw [any_strange, hs])
      have HF2 : Hid (fldB ls = (s && checkB RO && checkB RN)) := (by have h := HF.out; rw [hs] at h; exact h)
      clear HF hs
      go_wp2_with fail
      refine (hContains_f 34 ls (fun m => !okS m.sg) _ w2 hv2 hl (enters_of Tryz.func34 (by kernel_rfl) rfl) (fun m _ u => hstrange_f m u) (!s) HS1).mono ?_
      rintro e w3 ⟨rfl, hB3⟩
      have hx3 := (hxx _ hBz).low hB3
      have hvo3 := HS.keep hvo hB3 (Nat.le_refl _)
      have hvn3 := HS.keep hvn hB3 (Nat.le_refl _)
      have hv3 := HMk.keep hv2 hB3 (Nat.le_refl _)
      have hB4 := hB2.trans (hB3.mono hB2.size)
      obtain ⟨z0, z1, z2, z3, z4⟩ := hx3.cells
      dsimp only at z0 z1 z2 z3 z4
      clear y0 y1 y2 y3 y4 HS1
      cases s with
      | false =>
        have HE : Hid (6 = r) := (by show _ = _; rw [← HR.out, chk_fld HG.out (by rw [HF2.out]; rfl)])
        clear HR HG HF2
        go_wp2
        go_ret
        exact ⟨by rw [← HE.out]; rfl, hB4⟩
      | true =>
      obtain ⟨q1, hq1⟩ : ∃ q, checkB RO = q := ⟨_, rfl⟩
      obtain ⟨q2, hq2⟩ : ∃ q, checkB RN = q := ⟨_, rfl⟩
      have HQ1 : Hid (checkB RO = q1) := hq1
      have HQ2 : Hid (checkB RN = q2) := hq2
      have HF3 : Hid (fldB ls = (q1 && q2)) := (by have h := HF2.out; rw [hq1, hq2, Bool.true_and] at h; exact h)
      clear HF2 hq1 hq2
      cases q1 with
      | false =>
        have HE : Hid (6 = r) := (by show _ = _; rw [← HR.out, chk_fld HG.out (by rw [HF3.out]; rfl)])
        clear HR HG HF3
        go_wp2_with fail
        refine (hlCheck_f _ RO w3 hROl HROm.out hvo3 false HQ1 6 rfl).mono ?_
        rintro e w4 ⟨rfl, rfl⟩
        go_wp2
        go_ret
        exact ⟨by rw [← HE.out]; rfl, hB4⟩
      | true =>
      go_wp2_with fail
      refine (hlCheck_f _ RO w3 hROl HROm.out hvo3 true HQ1 0 rfl).mono ?_
      rintro e w4 ⟨rfl, rfl⟩
      cases q2 with
      | false =>
        have HE : Hid (6 = r) := (by show _ = _; rw [← HR.out, chk_fld HG.out (by rw [HF3.out]; rfl)])
        clear HR HG HF3
        go_wp2_with fail
        refine (hlCheck_f _ RN w3 hRNl HRNm.out hvn3 false HQ2 6 rfl).mono ?_
        rintro e w4 ⟨rfl, rfl⟩
        go_wp2
        go_ret
        exact ⟨by rw [← HE.out]; rfl, hB4⟩
      | true =>
      go_wp2_with fail
      refine (hlCheck_f _ RN w3 hRNl HRNm.out hvn3 true HQ2 0 rfl).mono ?_
      rintro e w4 ⟨rfl, rfl⟩
      have HFT : Hid (fldB ls = true) := (by have h := HF3.out; exact h)
      clear HF3 HQ1 HQ2
      by_cases ha : (RO.length : Int) = AN
      · have ea : ((RO.length : Int) != AN) = false := by simpa using ha
        by_cases hb : (RN.length : Int) = BN
        · have eb : ((RN.length : Int) != BN) = false := by simpa using hb
          obtain ⟨q, hq⟩ : ∃ q, ls.any chgB = q := ⟨_, rfl⟩
          have HQ : Hid (ls.any chgB = q) := hq
          have HE : Hid ((if q = true then 0 else 50) = r) := (by
            show _ = _
            rw [← HR.out, chk_end (h := ⟨A, AN, B, BN, ls⟩) HG.out HFT.out (by rw [HO.out, ha]) (by rw [HN.out, hb]) hq])
          clear HR HG HFT hq ha hb
          go_wp2_with fail
          refine (hContains_f 36 ls chgB _ w3 hv3 hl (enters_of Tryz.func36 (by kernel_rfl) rfl) (fun m _ u => hchanged_f m u) q HQ).mono ?_
          rintro e w5 ⟨rfl, hB5⟩
          have hB6 := hB4.trans (hB5.mono hB4.size)
          cases q with
          | false =>
            go_wp2
            go_ret
            exact ⟨by rw [← HE.out]; rfl, hB6⟩
          | true =>
            go_wp2
            go_ret
            exact ⟨by rw [← HE.out]; rfl, hB6⟩
        · have eb : ((RN.length : Int) != BN) = true := by simpa using hb
          have HE : Hid (120 = r) := (by
            show _ = _
            rw [← HR.out, chk_cnt (h := ⟨A, AN, B, BN, ls⟩) HG.out HFT.out (.inr (by rw [HN.out]; exact fun k => hb k.symm))])
          clear HR HG HFT ha hb
          go_wp2
          go_ret
          exact ⟨by rw [← HE.out]; rfl, hB4⟩
      · have ea : ((RO.length : Int) != AN) = true := by simpa using ha
        have HE : Hid (120 = r) := (by
          show _ = _
          rw [← HR.out, chk_cnt (h := ⟨A, AN, B, BN, ls⟩) HG.out HFT.out (.inl (by rw [HO.out]; exact fun k => ha k.symm))])
        clear HR HG HFT ha
        go_wp2
        go_ret
        exact ⟨by rw [← HE.out]; rfl, hB4⟩
end Go.Proofs.YtgckcbcdmmnkoaaGreatDoor

/- The code's Order of layer 11, walked. -/
set_option maxRecDepth 20000
namespace Go.Proofs.YtgckcbcdmmnkoaaGreatDoor
open Go.RowKit

set_option maxRecDepth 10000 in
set_option maxHeartbeats 4000000 in
theorem hOrder_f (p : List (Hk × Value)) (v : Value) (w : World) (hv : HHp w v p) (hok : HOk p) (r : Int) (HR : Hid (ordH (p.map (·.1)) = r)) : Calls Tryz.prog 17 #[v] w fun e w' => e = .returned (.int .i64 r) ∧ Below w.heap.size w w' := by
  obtain ⟨vo, vc, rfl⟩ := Holds.form hv.row
  have hpl : p.length ≤ 1099511627776 := hok.1
  have HOK : Hid (HOk p) := hok
  obtain ⟨l, hl⟩ : ∃ l, p.map (·.1) = l := ⟨_, rfl⟩
  have hll : p.length = l.length := by rw [← hl]; simp
  have HL : Hid (p.map (·.1) = l) := hl
  have HLL : Hid (p.length = l.length) := hll
  rw [hl] at HR
  clear hl hll hok
  go_enter Tryz.func17, Tryz.ntmps17
  go_wp2
  go_loopw [14] (fun iv wr => ∃ (k : Nat), k ≤ p.length ∧ iv = .int .i64 (k : Int) ∧ Below w.heap.size w wr ∧ Hid (errs l = errs (l.drop k))) (fun iv _ => p.length - (intOf iv).toNat)
  case atStart => exact ⟨0, Nat.zero_le _, by go_num, Below.refl _ _, rfl⟩
  case round =>
    obtain ⟨k, hk, rfl, hB, HI⟩ := hrel
    by_cases hlt : k < p.length
    · obtain ⟨b, off, rfl, hb, _⟩ := hv.at (by omega)
      obtain ⟨x, y, hxy⟩ : ∃ x y, p[k] = (x, y) := ⟨_, _, rfl⟩
      obtain ⟨⟨c0, c1, c2, c3, c4⟩, hm⟩ := hv.take hB k hlt hxy
      have hmem : (x, y) ∈ p := by rw [← hxy]; exact List.getElem_mem hlt
      have hbd := HOK.out.2 _ hmem
      have hlk : l[k]'(by have := HLL.out; omega) = x := by
        have hz : l[k]? = some x := by rw [← HL.out]; simp [hlt, hxy]
        exact (List.getElem?_eq_some_iff.1 hz).2
      have HI2 : Hid (errs l = if chkH x ≠ 0 then chkH x else errs (l.drop (k + 1))) := (by
        show _ = _
        rw [HI.out, errs_drop (by have := HLL.out; omega), hlk])
      obtain ⟨yo, yc, rfl⟩ := hm.form
      have i1 : 0 ≤ (k : Int) := by omega
      have i2 : (k : Int) < (p.length : Int) := by omega
      obtain ⟨z, hz⟩ : ∃ z, chkH x = z := ⟨_, rfl⟩
      have HZ : Hid (chkH x = z) := hz
      have hBx : Below wr.heap.size wr (wr.alloc (hkO x (.slice yo x.ls.length yc))) := (Below.refl _ wr).alloc (Nat.le_refl _) _
      have hm1 := HMk.keep hm hBx (Nat.le_refl _)
      have hB1 := hB.trans (hBx.mono hB.size)
      obtain ⟨x0, x1, x2, x3, x4⟩ := (Hx.new wr x (.slice yo x.ls.length yc)).cells
      have hW : wr.alloc (Obj.cells #[Value.int IntKind.i64 x.A, Value.int IntKind.i64 x.AN, Value.int IntKind.i64 x.B, Value.int IntKind.i64 x.BN, .slice yo x.ls.length yc] 39) = wr.alloc (hkO x (.slice yo x.ls.length yc)) := rfl
      clear HI hlk hz hxy hmem
      generalize wr.alloc (hkO x (.slice yo x.ls.length yc)) = w1 at *
      go_wp2_with fail
      refine (hCheck_f x _ _ hm1 hbd.1 hbd.2 z HZ).mono ?_
      rintro e w2 ⟨rfl, hB2⟩
      have hB02 := hB1.trans (hB2.mono hB1.size)
      by_cases hz0 : z = 0
      · subst hz0
        have HI3 : Hid (errs l = errs (l.drop (k + 1))) := (by
          show _ = _
          rw [HI2.out, HZ.out]
          simp)
        clear HI2 HZ
        go_wp2
        exact ⟨⟨k + 1, by omega, by go_num, hB02, HI3⟩, by simp [intOf]; omega⟩
      · have hz1 : (z != 0) = true := by simpa using hz0
        have HE : Hid (r = z) := (by
          have h1 : errs l = z := by rw [HI2.out, HZ.out, if_pos hz0]
          show _ = _
          rw [← HR.out]
          exact ord_err h1 hz0)
        clear HI2 HZ HR
        go_wp2
        go_ret
        exact ⟨ret_int HE.out.symm, hB02⟩
    · have HE0 : Hid (errs l = 0) := (by
        show _ = _
        rw [HI.out, List.drop_of_length_le (by have := HLL.out; omega)]
        rfl)
      have HE : Hid ((if ordB 0 0 l = true then (0 : Int) else 121) = r) := (by
        show _ = _
        rw [← HR.out]
        exact (ord_ok HE0.out).symm)
      have hend : decide ((k : Int) < (p.length : Int)) = false := decide_eq_false (by omega)
      clear HI HR
      go_wp2
      go_loopw [6, 7, 26] (fun uv vv iv wr => ∃ (k : Nat) (u v : Int), k ≤ p.length ∧ uv = .int .i64 u ∧ vv = .int .i64 v ∧ iv = .int .i64 (k : Int) ∧ (-1 ≤ u ∧ u ≤ 8589934592) ∧ (-1 ≤ v ∧ v ≤ 8589934592) ∧ Below w.heap.size w wr ∧ Hid ((if ordB u v (l.drop k) = true then (0 : Int) else 121) = r)) (fun _ _ iv _ => p.length - (intOf iv).toNat)
      case atStart => exact ⟨0, 0, 0, Nat.zero_le _, by go_num, by go_num, by go_num, by omega, by omega, hB, HE⟩
      case round =>
        obtain ⟨k, u, v, hk, rfl, rfl, rfl, hu, hv', hB, HI⟩ := hrel
        by_cases hlt : k < p.length
        · obtain ⟨b, off, rfl, hb, _⟩ := hv.at (by omega)
          obtain ⟨x, y, hxy⟩ : ∃ x y, p[k] = (x, y) := ⟨_, _, rfl⟩
          obtain ⟨⟨c0, c1, c2, c3, c4⟩, hm⟩ := hv.take hB k hlt hxy
          have hlk : l[k]'(by have := HLL.out; omega) = x := by
            have hz : l[k]? = some x := by rw [← HL.out]; simp [hlt, hxy]
            exact (List.getElem?_eq_some_iff.1 hz).2
          have hck : chkH x = 0 := errs_ok HE0.out x (by rw [← hlk]; exact List.getElem_mem _)
          have hn := chk_num hck
          obtain ⟨X, hX⟩ : ∃ X, atA x = X := ⟨_, rfl⟩
          obtain ⟨Y, hY⟩ : ∃ Y, atB x = Y := ⟨_, rfl⟩
          have ha := at_num hck
          rw [hX, hY] at ha
          have HX : Hid ((if 0 < x.AN then x.A - 1 else x.A) = X) := hX
          have HY : Hid ((if 0 < x.BN then x.B - 1 else x.B) = Y) := hY
          obtain ⟨yo, yc, rfl⟩ := hm.form
          have i1 : 0 ≤ (k : Int) := by omega
          have i2 : (k : Int) < (p.length : Int) := by omega
          have HI2 : Hid ((if (decide (u ≤ X) && decide (X - u = Y - v) && ordB (X + x.AN) (Y + x.BN) (l.drop (k + 1))) = true then (0 : Int) else 121) = r) := (by
            show _ = _
            have e : ordB u v (x :: l.drop (k + 1)) = (decide (u ≤ X) && decide (X - u = Y - v) && ordB (X + x.AN) (Y + x.BN) (l.drop (k + 1))) := by
              simp only [ordB]
              rw [hX, hY]
            rw [← HI.out, List.drop_eq_getElem_cons (l := l) (i := k) (by have := HLL.out; omega), hlk, e])
          have hBx : Below wr.heap.size wr (wr.alloc (hkO x (.slice yo x.ls.length yc))) := (Below.refl _ wr).alloc (Nat.le_refl _) _
          have hB1 := hB.trans (hBx.mono hB.size)
          have hx1 := Hx.new wr x (.slice yo x.ls.length yc)
          have hW : wr.alloc (Obj.cells #[Value.int IntKind.i64 x.A, Value.int IntKind.i64 x.AN, Value.int IntKind.i64 x.B, Value.int IntKind.i64 x.BN, .slice yo x.ls.length yc] 39) = wr.alloc (hkO x (.slice yo x.ls.length yc)) := rfl
          clear HI hlk hck hxy hX hY HE
          generalize wr.alloc (hkO x (.slice yo x.ls.length yc)) = w1 at *
          go_upto_region 12 with fail
          clear hW c0 c1 c2 c3 c4
          generalize hBX : wr.heap.size = BX at *
          have hxx : ∀ u : World, Low w1 u → Hx u BX x (.slice yo x.ls.length yc) := fun u hu => hx1.low hu
          have hlow : Low w1 (w1.drewN 1) := Below.dN (Below.refl _ w1) 1
          refine wp_region_noPanic ?_
          refine wp_region_held_drew (S := fun u => Low w1 u) (by kernel_rfl) hlow (fun hHeld => ?_)
          refine go_take 0 30 _ (.pointer (some ⟨BX, 0, none⟩)) rfl (by kernel_rfl) (by kernel_rfl) (by kernel_rfl) (by kernel_rfl) (fun _ _ _ h => h) (Or.inl ⟨by kernel_rfl, fun u hu => by kernel_rfl⟩) hHeld ?_
          simp only [Act.put, List.setIfInBounds_toArray, List.set_cons_zero, List.set_cons_succ]
          refine go_take 1 31 _ (.int .i64 x.A) rfl (by kernel_rfl) (by kernel_rfl) (by kernel_rfl) (by kernel_rfl) (fun _ _ _ h => h) (Or.inl ⟨by kernel_rfl, fun u hu => load_int (hxx u hu).cells.1 (.tmp 30) (by kernel_rfl) (by kernel_rfl)⟩) hHeld ?_
          simp only [Act.put, List.setIfInBounds_toArray, List.set_cons_zero, List.set_cons_succ]
          refine go_take 2 32 _ (.pointer (some ⟨BX, 1, none⟩)) rfl (by kernel_rfl) (by kernel_rfl) (by kernel_rfl) (by kernel_rfl) (fun _ _ _ h => h) (Or.inl ⟨by kernel_rfl, fun u hu => by kernel_rfl⟩) hHeld ?_
          simp only [Act.put, List.setIfInBounds_toArray, List.set_cons_zero, List.set_cons_succ]
          refine go_take 3 33 _ (.int .i64 x.AN) rfl (by kernel_rfl) (by kernel_rfl) (by kernel_rfl) (by kernel_rfl) (fun _ _ _ h => h) (Or.inl ⟨by kernel_rfl, fun u hu => load_int (hxx u hu).cells.2.1 (.tmp 32) (by kernel_rfl) (by kernel_rfl)⟩) hHeld ?_
          simp only [Act.put, List.setIfInBounds_toArray, List.set_cons_zero, List.set_cons_succ]
          refine go_take 5 35 _ (.pointer (some ⟨BX, 2, none⟩)) rfl (by kernel_rfl) (by kernel_rfl) (by kernel_rfl) (by kernel_rfl) (fun _ _ _ h => h) (Or.inl ⟨by kernel_rfl, fun u hu => by kernel_rfl⟩) hHeld ?_
          simp only [Act.put, List.setIfInBounds_toArray, List.set_cons_zero, List.set_cons_succ]
          refine go_take 6 36 _ (.int .i64 x.B) rfl (by kernel_rfl) (by kernel_rfl) (by kernel_rfl) (by kernel_rfl) (fun _ _ _ h => h) (Or.inl ⟨by kernel_rfl, fun u hu => load_int (hxx u hu).cells.2.2.1 (.tmp 35) (by kernel_rfl) (by kernel_rfl)⟩) hHeld ?_
          simp only [Act.put, List.setIfInBounds_toArray, List.set_cons_zero, List.set_cons_succ]
          refine go_take 7 37 _ (.pointer (some ⟨BX, 3, none⟩)) rfl (by kernel_rfl) (by kernel_rfl) (by kernel_rfl) (by kernel_rfl) (fun _ _ _ h => h) (Or.inl ⟨by kernel_rfl, fun u hu => by kernel_rfl⟩) hHeld ?_
          simp only [Act.put, List.setIfInBounds_toArray, List.set_cons_zero, List.set_cons_succ]
          refine go_take 8 38 _ (.int .i64 x.BN) rfl (by kernel_rfl) (by kernel_rfl) (by kernel_rfl) (by kernel_rfl) (fun _ _ _ h => h) (Or.inl ⟨by kernel_rfl, fun u hu => load_int (hxx u hu).cells.2.2.2.1 (.tmp 37) (by kernel_rfl) (by kernel_rfl)⟩) hHeld ?_
          simp only [Act.put, List.setIfInBounds_toArray, List.set_cons_zero, List.set_cons_succ]
          refine go_callH 4 34 _ rfl (by kernel_rfl) (by kernel_rfl) (by kernel_rfl) 31 #[.tmp 31, .tmp 33] #[3, 3] (by kernel_rfl) #[.int .i64 x.A, .int .i64 x.AN] (by kernel_rfl) (enters_of Tryz.func31 (by kernel_rfl) rfl) (.int .i64 X) ((hplaceOf_f x.A x.AN _ (by omega) (by omega) X HX).mono (fun _ _ h => ⟨h.1, by rw [h.2]; exact hHeld⟩)) ?_
          intro w1 hHeld
          simp only [Act.put, List.setIfInBounds_toArray, List.set_cons_zero, List.set_cons_succ]
          refine go_callH 9 39 _ rfl (by kernel_rfl) (by kernel_rfl) (by kernel_rfl) 31 #[.tmp 36, .tmp 38] #[3, 3] (by kernel_rfl) #[.int .i64 x.B, .int .i64 x.BN] (by kernel_rfl) (enters_of Tryz.func31 (by kernel_rfl) rfl) (.int .i64 Y) ((hplaceOf_f x.B x.BN _ (by omega) (by omega) Y HY).mono (fun _ _ h => ⟨h.1, by rw [h.2]; exact hHeld⟩)) ?_
          intro w2 hHeld
          simp only [Act.put, List.setIfInBounds_toArray, List.set_cons_zero, List.set_cons_succ]
          refine go_take 10 10 _ (.int .i64 X) rfl (by kernel_rfl) (by kernel_rfl) (by kernel_rfl) (by kernel_rfl) (fun _ _ _ h => h) (Or.inl ⟨by kernel_rfl, fun u hu => by kernel_rfl⟩) hHeld ?_
          simp only [Act.put, List.setIfInBounds_toArray, List.set_cons_zero, List.set_cons_succ]
          refine go_take 11 11 _ (.int .i64 Y) rfl (by kernel_rfl) (by kernel_rfl) (by kernel_rfl) (by kernel_rfl) (fun _ _ _ h => h) (Or.inl ⟨by kernel_rfl, fun u hu => by kernel_rfl⟩) hHeld ?_
          simp only [Act.put, List.setIfInBounds_toArray, List.set_cons_zero, List.set_cons_succ]
          refine wpAnyH_done (by kernel_rfl) ?_ _
          refine NoPanic.normal ?_
          obtain ⟨d0, d1, d2, d3, d4⟩ := (hxx w2 hHeld).cells
          have hB01 := hB1.trans (Below.mono hHeld hB1.size)
          generalize w2 = w4 at *
          by_cases h1 : X < u
          · have HE3 : Hid (r = 121) := (by
              show _ = _
              rw [← HI2.out]
              simp [show ¬ u ≤ X by omega])
            clear HI2 HX HY
            go_wp2
            go_ret
            exact ⟨ret_int HE3.out.symm, hB01⟩
          · have h1' : decide (X < u) = false := decide_eq_false h1
            by_cases h2 : X - u = Y - v
            · have h2' : (X - u != Y - v) = false := by simpa using h2
              have HI3 : Hid ((if ordB (X + x.AN) (Y + x.BN) (l.drop (k + 1)) = true then (0 : Int) else 121) = r) := (by
                show _ = _
                rw [← HI2.out]
                simp [show u ≤ X by omega, h2])
              clear HI2 HX HY h2
              go_upto_region 15 with fail
              go_quiet (fail)
              go_wp2
              exact ⟨⟨k + 1, X + x.AN, Y + x.BN, by omega, by go_num, by go_num, by go_num, by omega, by omega, Below.dN hB01 _, HI3⟩, by simp [intOf]; omega⟩
            · have h2' : (X - u != Y - v) = true := by simpa using h2
              have HE3 : Hid (r = 121) := (by
                show _ = _
                rw [← HI2.out]
                simp [h2])
              clear HI2 HX HY h2
              go_wp2
              go_ret
              exact ⟨ret_int HE3.out.symm, hB01⟩
        · have HE3 : Hid (r = 0) := (by
            show _ = _
            rw [← HI.out, List.drop_of_length_le (by have := HLL.out; omega)]
            rfl)
          have hend2 : decide ((k : Int) < (p.length : Int)) = false := decide_eq_false (by omega)
          clear HI HE
          go_wp2
          go_ret
          exact ⟨ret_int HE3.out.symm, hB⟩
end Go.Proofs.YtgckcbcdmmnkoaaGreatDoor

/- The laws' own works of layer 11, walked: the chapter's first case. -/
set_option maxRecDepth 20000
namespace Go.Proofs.YtgckcbcdmmnkoaaGreatDoor
open Go.RowKit

def exA : List (List UInt8) := [[49, 10], [50, 10], [51, 10], [52, 10], [53, 10], [54, 10]]
def exB : List (List UInt8) := [[49, 10], [51, 10], [52, 10], [53, 10], [120, 10], [54, 10]]
def exL : List Ch := [⟨1, 1, 1, 0⟩, ⟨5, 0, 4, 1⟩]
def exH0 : Hk := ⟨1, 3, 1, 2, [⟨32, [49, 10]⟩, ⟨45, [50, 10]⟩, ⟨32, [51, 10]⟩]⟩
def exH1 : Hk := ⟨5, 2, 4, 3, [⟨32, [53, 10]⟩, ⟨43, [120, 10]⟩, ⟨32, [54, 10]⟩]⟩
def exH2 : Hk := ⟨1, 6, 1, 6, [⟨32, [49, 10]⟩, ⟨45, [50, 10]⟩, ⟨32, [51, 10]⟩, ⟨32, [52, 10]⟩, ⟨32, [53, 10]⟩, ⟨43, [120, 10]⟩, ⟨32, [54, 10]⟩]⟩
theorem ex_e1 : grpE exL exA.length exB.length 1 = 0 := by rfl
theorem ex_e2 : grpE exL exA.length exB.length 2 = 0 := by rfl
theorem ex_r1 : mkR exL exA exB 1 = [exH0, exH1] := by rfl
theorem ex_r2 : mkR exL exA exB 2 = [exH2] := by rfl
theorem ex_o2 : ordH [exH2] = 0 := by rfl
theorem map_two {P : List (Hk × Value)} {h0 h1 : Hk} (h : P.map (·.1) = [h0, h1]) : ∃ y0 y1, P = [(h0, y0), (h1, y1)] := by
  match P, h with
  | [(x0, y0), (x1, y1)], h =>
    simp at h
    obtain ⟨rfl, rfl⟩ := h
    exact ⟨y0, y1, rfl⟩
theorem map_one {P : List (Hk × Value)} {h0 : Hk} (h : P.map (·.1) = [h0]) : ∃ y0, P = [(h0, y0)] := by
  match P, h with
  | [(x0, y0)], h =>
    simp at h
    subst h
    exact ⟨y0, rfl⟩
set_option maxHeartbeats 2000000 in
theorem lexample_f (w : World) : Calls Tryz.prog 24 #[] w fun e w' => ∃ va vb, e = .returned (.tuple #[va, vb]) ∧ HS w' va exA ∧ HS w' vb exB ∧ Below w.heap.size w w' := by
  have hA := new_holds w #[.string ⟨#[49, 10]⟩, .string ⟨#[50, 10]⟩, .string ⟨#[51, 10]⟩, .string ⟨#[52, 10]⟩, .string ⟨#[53, 10]⟩, .string ⟨#[54, 10]⟩] 9 6 6 (by decide)
  have hB1 : Below w.heap.size w (w.alloc (.cells #[.string ⟨#[49, 10]⟩, .string ⟨#[50, 10]⟩, .string ⟨#[51, 10]⟩, .string ⟨#[52, 10]⟩, .string ⟨#[53, 10]⟩, .string ⟨#[54, 10]⟩] 9)) := (Below.refl _ w).alloc (Nat.le_refl _) _
  have hA1 : HS (w.alloc (.cells #[.string ⟨#[49, 10]⟩, .string ⟨#[50, 10]⟩, .string ⟨#[51, 10]⟩, .string ⟨#[52, 10]⟩, .string ⟨#[53, 10]⟩, .string ⟨#[54, 10]⟩] 9)) (.slice (some ⟨w.heap.size, 0, none⟩) 6 6) exA := hA
  have HSZ : Hid ((w.alloc (.cells #[.string ⟨#[49, 10]⟩, .string ⟨#[50, 10]⟩, .string ⟨#[51, 10]⟩, .string ⟨#[52, 10]⟩, .string ⟨#[53, 10]⟩, .string ⟨#[54, 10]⟩] 9)).heap.size = w.heap.size + 1) := (by show _ = _; simp)
  clear hA
  generalize hW : w.alloc (.cells #[.string ⟨#[49, 10]⟩, .string ⟨#[50, 10]⟩, .string ⟨#[51, 10]⟩, .string ⟨#[52, 10]⟩, .string ⟨#[53, 10]⟩, .string ⟨#[54, 10]⟩] 9) = W at *
  have hB := new_holds W #[.string ⟨#[49, 10]⟩, .string ⟨#[51, 10]⟩, .string ⟨#[52, 10]⟩, .string ⟨#[53, 10]⟩, .string ⟨#[120, 10]⟩, .string ⟨#[54, 10]⟩] 9 6 6 (by decide)
  have hB2 : Below W.heap.size W (W.alloc (.cells #[.string ⟨#[49, 10]⟩, .string ⟨#[51, 10]⟩, .string ⟨#[52, 10]⟩, .string ⟨#[53, 10]⟩, .string ⟨#[120, 10]⟩, .string ⟨#[54, 10]⟩] 9)) := (Below.refl _ W).alloc (Nat.le_refl _) _
  have hb1 : HS (W.alloc (.cells #[.string ⟨#[49, 10]⟩, .string ⟨#[51, 10]⟩, .string ⟨#[52, 10]⟩, .string ⟨#[53, 10]⟩, .string ⟨#[120, 10]⟩, .string ⟨#[54, 10]⟩] 9)) (.slice (some ⟨W.heap.size, 0, none⟩) 6 6) exB := hB
  have hA2 := HS.keep hA1 hB2 (Nat.le_refl _)
  go_enter Tryz.func24, Tryz.ntmps24
  go_wp2
  go_ret2
  exact ⟨_, _, rfl, hA2, hb1, hB1.trans (hB2.mono hB1.size)⟩

set_option maxRecDepth 10000 in
set_option maxHeartbeats 4000000 in
theorem hworks_f (w : World) : Calls Tryz.prog 7 #[] w fun e w' => e = .returned (.bool true) ∧ Below w.heap.size w w' := by
  go_enter Tryz.func7, Tryz.ntmps7
  go_wp2_with fail
  refine (lexample_f w).mono ?_
  rintro e w1 ⟨va, vb, rfl, ha, hb, hB1⟩
  obtain ⟨ao, ac, rfl⟩ := Holds.form ha
  obtain ⟨bo, bc, rfl⟩ := Holds.form hb
  have hl := new_holds w1 #[.int .i64 1, .int .i64 1, .int .i64 1, .int .i64 0, .int .i64 5, .int .i64 0, .int .i64 4, .int .i64 1] 56 2 2 (by decide)
  have hl1 : HCh (w1.alloc (.cells #[.int .i64 1, .int .i64 1, .int .i64 1, .int .i64 0, .int .i64 5, .int .i64 0, .int .i64 4, .int .i64 1] 56)) (.slice (some ⟨w1.heap.size, 0, none⟩) 2 2) exL := hl
  have hB2 : Below w1.heap.size w1 (w1.alloc (.cells #[.int .i64 1, .int .i64 1, .int .i64 1, .int .i64 0, .int .i64 5, .int .i64 0, .int .i64 4, .int .i64 1] 56)) := (Below.refl _ w1).alloc (Nat.le_refl _) _
  have ha2 := HS.keep ha hB2 (Nat.le_refl _)
  have hb2 := HS.keep hb hB2 (Nat.le_refl _)
  have hB02 := hB1.trans (hB2.mono hB1.size)
  clear hl ha hb hB1 hB2
  go_wp2_with fail
  generalize w1.alloc (Obj.cells #[.int .i64 1, .int .i64 1, .int .i64 1, .int .i64 0, .int .i64 5, .int .i64 0, .int .i64 4, .int .i64 1] 56) = w2 at *
  refine (hMake_f exL exA exB 1 _ _ _ w2 hl1 ha2 hb2 (by decide) (by decide) (by decide) 0 ex_e1 [exH0, exH1] ex_r1).mono ?_
  rintro e w3 ⟨v3, P, rfl, hP, hPm⟩
  obtain ⟨y0, y1, rfl⟩ := map_two hPm
  have hB3 := hP.low
  have hB03 := hB02.trans (hB3.mono hB02.size)
  have hl3 := HCh.keep hl1 hB3 (Nat.le_refl _)
  have ha3 := HS.keep ha2 hB3 (Nat.le_refl _)
  have hb3 := HS.keep hb2 hB3 (Nat.le_refl _)
  have hownP := hP.own
  obtain ⟨oP, cP, hvP⟩ := (holds_of hownP).form
  subst hvP
  clear hPm hP hl1 ha2 hb2 hB3
  go_wp2_with fail
  refine (hMake_f exL exA exB 2 _ _ _ w3 hl3 ha3 hb3 (by decide) (by decide) (by decide) 0 ex_e2 [exH2] ex_r2).mono ?_
  rintro e w4 ⟨v4, Q, rfl, hQ, hQm⟩
  obtain ⟨z0, rfl⟩ := map_one hQm
  have hB4 := hQ.low
  have hB04 := hB03.trans (hB4.mono hB03.size)
  have hownP4 := owns_keep hownP hB4
  have hownQ := hQ.own
  have hQh := hQ.holds
  have hz := hQh.ins (exH2, z0) (by simp)
  obtain ⟨zo, zc, hzz⟩ := hz.form
  dsimp only at hzz
  subst hzz
  obtain ⟨oQ, cQ, hvQ⟩ := (holds_of hownQ).form
  subst hvQ
  obtain ⟨gP, rfl⟩ := hown_at hownP4
  obtain ⟨gQ, rfl⟩ := hown_at hownQ
  have p0 : w4.cell? ⟨gP, 0, none⟩ = some (.int .i64 1) := hownP4.cellAt 0 (by simp)
  have p1 : w4.cell? ⟨gP, 1, none⟩ = some (.int .i64 3) := hownP4.cellAt 1 (by simp)
  have p3 : w4.cell? ⟨gP, 3, none⟩ = some (.int .i64 2) := hownP4.cellAt 3 (by simp)
  have p5 : w4.cell? ⟨gP, 5, none⟩ = some (.int .i64 5) := hownP4.cellAt 5 (by simp)
  have p7 : w4.cell? ⟨gP, 7, none⟩ = some (.int .i64 4) := hownP4.cellAt 7 (by simp)
  have p8 : w4.cell? ⟨gP, 8, none⟩ = some (.int .i64 3) := hownP4.cellAt 8 (by simp)
  have q4 : w4.cell? ⟨gQ, 4, none⟩ = some (.slice zo 7 zc) := hownQ.cellAt 4 (by simp)
  have hokQ : HOk [(exH2, Value.slice zo exH2.ls.length zc)] := (by
    refine ⟨by simp, fun x hx => ?_⟩
    rw [List.mem_singleton.1 hx]
    refine ⟨by simp [exH2], ?_⟩
    intro m hm
    simp only [exH2, List.mem_cons, List.not_mem_nil, or_false] at hm
    rcases hm with rfl | rfl | rfl | rfl | rfl | rfl | rfl <;> simp)
  clear hQm hQ hl3 ha3 hb3 hB4 hownP hz
  go_wp2_with fail
  refine (hOrder_f [(exH2, Value.slice zo exH2.ls.length zc)] _ w4 hQh hokQ 0 ex_o2).mono ?_
  rintro e w5 ⟨rfl, hB5⟩
  go_wp2
  go_ret
  exact ⟨rfl, hB04.trans (hB5.mono hB04.size)⟩
end Go.Proofs.YtgckcbcdmmnkoaaGreatDoor
