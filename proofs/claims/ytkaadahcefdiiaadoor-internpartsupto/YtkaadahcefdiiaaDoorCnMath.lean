/-
  Plain facts on lines as lists of bytes: tabs as blanks, white space left out, made one blank, or cut off at the end, small letters; the form in which a line counts, and that ignoring more never parts two lines that were the same.
-/
import Derived.Lib.SlTrimSet
import Derived.Lib.Repeat
namespace Go.Proofs.YtkaadahcefdiiaaDoor.Cn
open Go

/-- a line's text, and whether it had its line feed -/
def feedB (s : List UInt8) : Bool := s.getLast? == some 10
def bareL (s : List UInt8) : List UInt8 := if feedB s then s.dropLast else s
def feedL (s : List UInt8) : List UInt8 := bif feedB s then [10] else []

/-- white space -/
def wh (c : UInt8) : Bool := [32, 9, 11, 12, 13].contains c
/-- how many blanks bring a column to the next multiple of eight, if it is none -/
def fillN (k : Nat) : Nat := (8 - k % 8) % 8
/-- blanks in the place of tabs, from a column on -/
def expL : Nat → List UInt8 → List UInt8
  | _, [] => []
  | k, c :: r => if c = 9 then List.replicate (8 - k % 8) 32 ++ expL (k + (8 - k % 8)) r else c :: expL (k + 1) r
/-- without white space, or with one blank for each run of it; the second: whether a run is under way -/
def wo (blank : Bool) : Bool → List UInt8 → List UInt8
  | _, [] => []
  | was, c :: r => bif wh c then (bif blank && !was then 32 :: wo blank true r else wo blank true r) else c :: wo blank false r
/-- without the white space at the end -/
def trL (l : List UInt8) : List UInt8 := Lib.trimRightS l [32, 9, 11, 12, 13]
/-- a small letter -/
def low (c : UInt8) : UInt8 := if 65 ≤ c.toNat ∧ c.toNat ≤ 90 then c + 32 else c
def smL (l : List UInt8) : List UInt8 := l.map low

/-- what is ignored -/
structure Ig where
  sp : Bool
  wt : Bool
  bl : Bool
  cs : Bool
  tb : Bool
  tr : Bool

/-- the steps, and a text behind the first ones -/
def ask (o : Ig) : Nat → Bool
  | 0 => o.tb
  | 1 => o.wt
  | 2 => o.sp
  | 3 => o.tr
  | _ => o.cs
def act : Nat → List UInt8 → List UInt8
  | 0, l => expL 0 l
  | 1, l => wo false false l
  | 2, l => trL (wo true false l)
  | 3, l => trL l
  | _, l => smL l
def stg (o : Ig) : Nat → List UInt8 → List UInt8
  | 0, l => l
  | k + 1, l => bif ask o k then act k (stg o k l) else stg o k l
def canonL (o : Ig) (l : List UInt8) : List UInt8 := stg o 5 (bareL l) ++ feedL l

theorem exp_tab (k : Nat) (r : List UInt8) : expL k (9 :: r) = List.replicate (8 - k % 8) 32 ++ expL (k + (8 - k % 8)) r := by simp [expL]
theorem exp_other {c : UInt8} (h : c ≠ 9) (k : Nat) (r : List UInt8) : expL k (c :: r) = c :: expL (k + 1) r := by simp [expL, h]
theorem fill_more {k : Nat} (h : k % 8 ≠ 0) : fillN k = fillN (k + 1) + 1 := by unfold fillN; omega
theorem fill_end {k : Nat} (h : k % 8 = 0) : fillN k = 0 := by unfold fillN; omega
theorem fill_first (k : Nat) : 8 - k % 8 = fillN (k + 1) + 1 := by unfold fillN; omega
theorem fill_le (k : Nat) : fillN k ≤ 7 := by unfold fillN; omega
theorem rep_blank (n : Nat) : Lib.repeatL [32] n = List.replicate n 32 := by
  induction n with
  | zero => rfl
  | succ n ih => rw [Lib.repeatL, ih]; rfl

theorem exp_len (l : List UInt8) : ∀ k, (expL k l).length ≤ 8 * l.length := by
  induction l with
  | nil => intro k; simp [expL]
  | cons c r ih =>
    intro k
    by_cases h : c = 9
    · subst h
      rw [exp_tab, List.length_append, List.length_replicate, List.length_cons]
      have := ih (k + (8 - k % 8))
      omega
    · rw [exp_other h, List.length_cons, List.length_cons]
      have := ih (k + 1)
      omega

theorem wo_keep {c : UInt8} (h : wh c = false) (blank was : Bool) (r : List UInt8) : wo blank was (c :: r) = c :: wo blank false r := by simp [wo, h]
theorem wo_blank {c : UInt8} (h : wh c = true) (r : List UInt8) : wo true false (c :: r) = 32 :: wo true true r := by simp [wo, h]
theorem wo_run {c : UInt8} (h : wh c = true) (r : List UInt8) : wo true true (c :: r) = wo true true r := by simp [wo, h]
theorem wo_none {c : UInt8} (h : wh c = true) (was : Bool) (r : List UInt8) : wo false was (c :: r) = wo false true r := by simp [wo, h]

theorem wo_len (blank : Bool) (l : List UInt8) : ∀ was, (wo blank was l).length ≤ l.length := by
  induction l with
  | nil => intro was; simp [wo]
  | cons c r ih =>
    intro was
    have h1 := ih true
    have h2 := ih false
    cases hc : wh c <;> cases blank <;> cases was <;> simp [wo, hc] <;> omega

theorem tr_len (l : List UInt8) : (trL l).length ≤ l.length := by
  unfold trL Lib.trimRightS
  rw [List.length_reverse]
  have := (List.dropWhile_suffix (fun b => [32, 9, 11, 12, 13].contains b) (l := l.reverse)).length_le
  rw [List.length_reverse] at this
  exact this
theorem sm_len (l : List UInt8) : (smL l).length = l.length := by simp [smL]

/-- without white space at all -/
theorem wo_filter (l : List UInt8) : ∀ was, wo false was l = l.filter fun c => !wh c := by
  induction l with
  | nil => intro was; rfl
  | cons c r ih =>
    intro was
    cases hc : wh c
    · rw [wo_keep hc, ih, List.filter_cons, hc]; rfl
    · rw [wo_none hc, ih, List.filter_cons, hc]; rfl

theorem tr_nil : trL [] = [] := rfl
theorem tr_white (l : List UInt8) {c : UInt8} (h : wh c = true) : trL (l ++ [c]) = trL l := by
  unfold trL Lib.trimRightS
  rw [List.reverse_append, List.reverse_singleton, List.singleton_append, List.dropWhile_cons, if_pos (by unfold wh at h; exact h)]
theorem tr_keep (l : List UInt8) {c : UInt8} (h : wh c = false) : trL (l ++ [c]) = l ++ [c] := by
  unfold trL Lib.trimRightS
  rw [List.reverse_append, List.reverse_singleton, List.singleton_append, List.dropWhile_cons, if_neg (by unfold wh at h; rw [h]; decide)]
  simp

theorem snoc_cases (l : List UInt8) : l = [] ∨ ∃ a c, l = a ++ [c] := by
  rcases l.eq_nil_or_concat with h | ⟨a, c, h⟩
  · exact .inl h
  · exact .inr ⟨a, c, by rw [h, List.concat_eq_append]⟩

theorem snoc_rec {P : List UInt8 → Prop} (h0 : P []) (h1 : ∀ a c, P a → P (a ++ [c])) (l : List UInt8) : P l := by
  have h : ∀ n (l : List UInt8), l.length = n → P l := by
    intro n
    induction n with
    | zero => intro l hl; rw [List.eq_nil_of_length_eq_zero hl]; exact h0
    | succ n ih =>
      intro l hl
      rcases snoc_cases l with rfl | ⟨a, c, rfl⟩
      · simp at hl
      · exact h1 a c (ih a (by simpa using hl))
  exact h _ l rfl

/-- a form's end: a text is cut into what stays and white space -/
theorem tr_parts (l : List UInt8) : ∃ ws, l = trL l ++ ws ∧ ∀ c ∈ ws, wh c = true := by
  refine snoc_rec (P := fun l => ∃ ws, l = trL l ++ ws ∧ ∀ c ∈ ws, wh c = true) ⟨[], rfl, by simp⟩ ?_ l
  intro a c ⟨ws, h, hw⟩
  cases hc : wh c
  · exact ⟨[], by rw [tr_keep a hc]; simp, by simp⟩
  · refine ⟨ws ++ [c], ?_, ?_⟩
    · rw [tr_white a hc, ← List.append_assoc, ← h]
    · intro x hx
      rcases List.mem_append.1 hx with hx | hx
      · exact hw x hx
      · rw [List.mem_singleton.1 hx]; exact hc
theorem tr_all (l : List UInt8) : ∀ ws : List UInt8, (∀ c ∈ ws, wh c = true) → trL (l ++ ws) = trL l := by
  intro ws
  refine snoc_rec (P := fun ws => (∀ c ∈ ws, wh c = true) → trL (l ++ ws) = trL l) (fun _ => by simp) ?_ ws
  intro a c ih hw
  rw [← List.append_assoc, tr_white _ (hw c (by simp))]
  exact ih fun x hx => hw x (by simp [hx])
/-- nothing, or its last byte is no white space -/
theorem tr_ends (l : List UInt8) : trL l = [] ∨ ∃ a c, trL l = a ++ [c] ∧ wh c = false := by
  refine snoc_rec (P := fun l => trL l = [] ∨ ∃ a c, trL l = a ++ [c] ∧ wh c = false) (.inl rfl) ?_ l
  intro a c ih
  cases hc : wh c
  · exact .inr ⟨a, c, tr_keep a hc, hc⟩
  · rw [tr_white a hc]; exact ih
theorem tr_twice (l : List UInt8) : trL (trL l) = trL l := by
  rcases tr_ends l with h | ⟨a, c, h, hc⟩
  · rw [h]; rfl
  · rw [h]; exact tr_keep a hc

/-- whether a run is under way behind a text -/
def wasOf : Bool → List UInt8 → Bool
  | was, [] => was
  | _, c :: r => wasOf (wh c) r
theorem wo_append (blank : Bool) (x y : List UInt8) : ∀ was, wo blank was (x ++ y) = wo blank was x ++ wo blank (wasOf was x) y := by
  induction x with
  | nil => intro was; rfl
  | cons c r ih =>
    intro was
    have h1 := ih true
    have h2 := ih false
    cases hc : wh c <;> cases blank <;> cases was <;> simp [wo, wasOf, hc, h1, h2]
theorem wo_white {ws : List UInt8} (h : ∀ c ∈ ws, wh c = true) (blank : Bool) : ∀ was, ∀ c ∈ wo blank was ws, wh c = true := by
  induction ws with
  | nil => intro was c hc; simp [wo] at hc
  | cons d r ih =>
    have hd : wh d = true := h d (by simp)
    have h1 := ih (fun x hx => h x (by simp [hx])) true
    intro was c hc
    cases blank <;> cases was <;> simp [wo, hd] at hc
    · exact h1 c hc
    · exact h1 c hc
    · rcases hc with rfl | hc
      · decide
      · exact h1 c hc
    · exact h1 c hc

theorem one_tr (l : List UInt8) : wo true false (trL l) = trL (wo true false l) := by
  obtain ⟨ws, h, hw⟩ := tr_parts l
  have e : wo true false l = wo true false (trL l) ++ wo true (wasOf false (trL l)) ws := by
    conv => lhs; rw [h]
    exact wo_append true (trL l) ws false
  rw [e, tr_all _ _ (wo_white hw true _)]
  rcases tr_ends l with h0 | ⟨a, c, h0, hc⟩
  · rw [h0]; rfl
  · rw [h0, wo_append, wo_keep hc]
    exact (tr_keep _ hc).symm

theorem filter_tr (l : List UInt8) : (trL l).filter (fun c => !wh c) = l.filter fun c => !wh c := by
  obtain ⟨ws, h, hw⟩ := tr_parts l
  conv => rhs; rw [h]
  rw [List.filter_append]
  have : ws.filter (fun c => !wh c) = [] := List.filter_eq_nil_iff.2 fun c hc => by rw [hw c hc]; decide
  rw [this, List.append_nil]
theorem filter_one (l : List UInt8) : ∀ was, (wo true was l).filter (fun c => !wh c) = l.filter fun c => !wh c := by
  induction l with
  | nil => intro was; rfl
  | cons c r ih =>
    intro was
    have h32 : wh 32 = true := by decide
    cases hc : wh c
    · rw [wo_keep hc, List.filter_cons, List.filter_cons, ih]
    · cases was
      · rw [wo_blank hc, List.filter_cons, List.filter_cons, ih, hc, h32]; rfl
      · rw [wo_run hc, List.filter_cons, ih, hc]; rfl

theorem low_white (c : UInt8) : wh (low c) = wh c := by
  have h : ∀ c : Fin 256, wh (low (UInt8.ofNat c.val)) = wh (UInt8.ofNat c.val) := by decide +kernel
  have := h ⟨c.toNat, c.toNat_lt⟩
  simpa using this
theorem low_feed (c : UInt8) : low c = 10 ↔ c = 10 := by
  have h : ∀ c : Fin 256, low (UInt8.ofNat c.val) = 10 ↔ UInt8.ofNat c.val = 10 := by decide +kernel
  have := h ⟨c.toNat, c.toNat_lt⟩
  simpa using this
theorem low_twice (c : UInt8) : low (low c) = low c := by
  have h : ∀ c : Fin 256, low (low (UInt8.ofNat c.val)) = low (UInt8.ofNat c.val) := by decide +kernel
  have := h ⟨c.toNat, c.toNat_lt⟩
  simpa using this
theorem sm_twice (l : List UInt8) : smL (smL l) = smL l := by simp [smL, low_twice]
theorem sm_append (x y : List UInt8) : smL (x ++ y) = smL x ++ smL y := by simp [smL]
theorem sm_tr (l : List UInt8) : smL (trL l) = trL (smL l) := by
  refine snoc_rec (P := fun l => smL (trL l) = trL (smL l)) rfl ?_ l
  intro a c ih
  have e : smL (a ++ [c]) = smL a ++ [low c] := by simp [smL]
  cases hc : wh c
  · rw [tr_keep a hc, e, tr_keep _ (by rw [low_white]; exact hc)]
  · rw [tr_white a hc, e, tr_white _ (by rw [low_white]; exact hc), ih]
theorem sm_wo (blank : Bool) (l : List UInt8) : ∀ was, smL (wo blank was l) = wo blank was (smL l) := by
  induction l with
  | nil => intro was; rfl
  | cons c r ih =>
    intro was
    have h1 := ih true
    have h2 := ih false
    have e : smL (c :: r) = low c :: smL r := rfl
    have hl := low_white c
    have h32 : low 32 = 32 := by decide
    rw [e]
    cases hc : wh c <;> rw [hc] at hl <;> cases blank <;> cases was <;> simp [wo, hc, hl, ← h1, ← h2] <;> simp [smL, h32]

/-- what a line counts as, up to the small letters: of its text, and with its line feed -/
def pre (o : Ig) (l : List UInt8) : List UInt8 := bif o.tb then expL 0 (bareL l) else bareL l
def sm? (o : Ig) (l : List UInt8) : List UInt8 := bif o.cs then smL l else l

theorem exp_ends (l : List UInt8) : ∀ k, (expL k l).getLast? = some 10 → l.getLast? = some 10 := by
  induction l with
  | nil => intro k h; simp [expL] at h
  | cons c r ih =>
    intro k h
    by_cases hc : c = 9
    · subst hc
      rw [exp_tab] at h
      by_cases hr : expL (k + (8 - k % 8)) r = []
      · rw [hr, List.append_nil, List.getLast?_replicate] at h
        split at h <;> simp at h
      · rw [List.getLast?_append] at h
        have hs : (expL (k + (8 - k % 8)) r).getLast? = some 10 := by
          cases hl : (expL (k + (8 - k % 8)) r).getLast? with
          | none => exact absurd (List.getLast?_eq_none_iff.1 hl) hr
          | some x => rw [hl] at h; simpa using h
        have := ih _ hs
        rw [List.getLast?_cons, this]; rfl
    · rw [exp_other hc, List.getLast?_cons] at h
      rw [List.getLast?_cons]
      cases he : (expL (k + 1) r).getLast? with
      | none =>
        rw [he] at h
        have hn : r = [] := by
          cases r with
          | nil => rfl
          | cons d r' =>
            exfalso
            rw [List.getLast?_eq_none_iff] at he
            by_cases hd : d = 9
            · subst hd
              rw [exp_tab] at he
              have := congrArg List.length he
              simp at this
              omega
            · rw [exp_other hd] at he; simp at he
        subst hn
        simpa using h
      | some x =>
        rw [he] at h
        have hx : x = 10 := by simpa using h
        rw [ih _ (by rw [he, hx])]; rfl

theorem bare_ends {l : List UInt8} (h : feedB l = false) : (bareL l).getLast? ≠ some 10 := by
  rw [bareL, h]
  intro e
  have : feedB l = true := by rw [feedB]; simpa using e
  rw [h] at this; cases this
theorem pre_ends {o : Ig} {l : List UInt8} (h : feedB l = false) : (pre o l).getLast? ≠ some 10 := by
  unfold pre
  cases o.tb
  · exact bare_ends h
  · exact fun e => bare_ends h (exp_ends _ _ e)
theorem sm_ends {o : Ig} {l : List UInt8} (h : (sm? o l).getLast? = some 10) : l.getLast? = some 10 := by
  unfold sm? at h
  cases hc : o.cs <;> rw [hc] at h
  · exact h
  · simp only [cond_true, smL, List.getLast?_map] at h
    cases hl : l.getLast? with
    | none => rw [hl] at h; cases h
    | some x =>
      rw [hl] at h
      have : low x = 10 := by simpa using h
      rw [(low_feed x).1 this]

/-- nothing of white space is ignored -/
def o0 (o : Ig) : Ig := { o with sp := false, wt := false, tr := false }
def ok (o : Ig) (k : Nat) : Ig := { o with sp := decide (k = 2), wt := decide (k = 3), tr := decide (k = 1) }

theorem c0 (o : Ig) (l : List UInt8) : canonL (o0 o) l = sm? o (pre o l) ++ feedL l := by
  unfold canonL stg sm? pre
  simp only [stg, ask, act, o0, cond_false]
theorem c1 (o : Ig) (l : List UInt8) : canonL (ok o 1) l = sm? o (trL (pre o l)) ++ feedL l := by
  unfold canonL stg sm? pre
  simp [stg, ask, act, ok]
theorem c2 (o : Ig) (l : List UInt8) : canonL (ok o 2) l = sm? o (trL (wo true false (pre o l))) ++ feedL l := by
  unfold canonL stg sm? pre
  simp [stg, ask, act, ok]
theorem c3 (o : Ig) (l : List UInt8) : canonL (ok o 3) l = sm? o (wo false false (pre o l)) ++ feedL l := by
  unfold canonL stg sm? pre
  simp [stg, ask, act, ok]
theorem ok0 (o : Ig) : ok o 0 = o0 o := by simp [ok, o0]

theorem smq_tr (o : Ig) (l : List UInt8) : sm? o (trL l) = trL (sm? o l) := by
  unfold sm?; cases o.cs
  · rfl
  · exact sm_tr l
theorem smq_wo (o : Ig) (blank : Bool) (l : List UInt8) : sm? o (wo blank false l) = wo blank false (sm? o l) := by
  unfold sm?; cases o.cs
  · rfl
  · exact sm_wo blank l false
theorem feed_parts (l : List UInt8) : (feedB l = true ∧ feedL l = [10]) ∨ (feedB l = false ∧ feedL l = []) := by
  unfold feedL; cases feedB l
  · exact .inr ⟨rfl, rfl⟩
  · exact .inl ⟨rfl, rfl⟩

/-- from nothing to white space at the end -/
theorem up1 (o : Ig) {a b : List UInt8} (h : canonL (o0 o) a = canonL (o0 o) b) : canonL (ok o 1) a = canonL (ok o 1) b := by
  rw [c0, c0] at h
  rw [c1, c1, smq_tr, smq_tr]
  have key : ∀ {x y : List UInt8}, feedB y = false → sm? o (pre o x) ++ [10] = sm? o (pre o y) ++ [] → False := by
    intro x y hy e
    have : (sm? o (pre o y)).getLast? = some 10 := by rw [List.append_nil] at e; rw [← e]; simp
    exact pre_ends hy (sm_ends this)
  rcases feed_parts a with ⟨ha, fa⟩ | ⟨ha, fa⟩ <;> rcases feed_parts b with ⟨hb, fb⟩ | ⟨hb, fb⟩ <;> rw [fa, fb] at h ⊢
  · rw [List.append_cancel_right h]
  · exact (key hb h).elim
  · exact (key ha h.symm).elim
  · rw [List.append_cancel_right h]

theorem tr_feed (x : List UInt8) : trL (x ++ [10]) = x ++ [10] := tr_keep x (by decide)
theorem wo_feed (blank : Bool) (x : List UInt8) (was : Bool) : wo blank was (x ++ [10]) = wo blank was x ++ [10] := by
  rw [wo_append]
  have h : wh 10 = false := by decide
  rw [wo_keep h]; rfl

/-- one form makes the next one -/
theorem next2 (o : Ig) (l : List UInt8) : canonL (ok o 2) l = trL (wo true false (canonL (ok o 1) l)) := by
  rw [c1, c2]
  have e : sm? o (trL (wo true false (pre o l))) = wo true false (sm? o (trL (pre o l))) := by rw [← one_tr, smq_wo]
  rw [e]
  rcases feed_parts l with ⟨_, f⟩ | ⟨_, f⟩ <;> rw [f]
  · rw [wo_feed, tr_feed]
  · rw [List.append_nil, List.append_nil, smq_tr, one_tr, tr_twice]
theorem next3 (o : Ig) (l : List UInt8) : canonL (ok o 3) l = wo false false (canonL (ok o 2) l) := by
  rw [c2, c3]
  have e : sm? o (wo false false (pre o l)) = wo false false (sm? o (trL (wo true false (pre o l)))) := by
    rw [smq_wo, smq_tr, smq_wo, wo_filter, wo_filter, filter_tr, filter_one]
  rw [e]
  rcases feed_parts l with ⟨_, f⟩ | ⟨_, f⟩ <;> rw [f]
  · rw [wo_feed]
  · rw [List.append_nil, List.append_nil]
theorem up2 (o : Ig) {a b : List UInt8} (h : canonL (ok o 1) a = canonL (ok o 1) b) : canonL (ok o 2) a = canonL (ok o 2) b := by rw [next2, next2, h]
theorem up3 (o : Ig) {a b : List UInt8} (h : canonL (ok o 2) a = canonL (ok o 2) b) : canonL (ok o 3) a = canonL (ok o 3) b := by rw [next3, next3, h]

/-- case besides -/
theorem small_form (o : Ig) (l : List UInt8) : canonL { o with cs := true } l = smL (canonL o l) := by
  have h10 : smL [10] = [10] := by decide
  have hf : smL (feedL l) = feedL l := by
    rcases feed_parts l with ⟨_, f⟩ | ⟨_, f⟩ <;> rw [f]
    · exact h10
    · rfl
  unfold canonL
  rw [sm_append, hf]
  congr 1
  show smL (stg { o with cs := true } 4 (bareL l)) = smL (bif o.cs then smL (stg o 4 (bareL l)) else stg o 4 (bareL l))
  have e : stg { o with cs := true } 4 (bareL l) = stg o 4 (bareL l) := rfl
  rw [e]
  cases o.cs
  · rfl
  · exact (sm_twice _).symm
theorem case_up (o : Ig) {a b : List UInt8} (h : canonL o a = canonL o b) : canonL { o with cs := true } a = canonL { o with cs := true } b := by rw [small_form, small_form, h]

/-- the lengths of forms -/
theorem bare_len (l : List UInt8) : (bareL l).length ≤ l.length := by unfold bareL; split <;> simp
theorem act_len (k : Nat) (l : List UInt8) : (act k l).length ≤ 8 * l.length := by
  match k with
  | 0 => exact exp_len l 0
  | 1 => have := wo_len false l false; simp only [act]; omega
  | 2 => have := wo_len true l false; have := tr_len (wo true false l); simp only [act]; omega
  | 3 => have := tr_len l; simp only [act]; omega
  | _ + 4 => simp only [act, sm_len]; omega
theorem act_less (k : Nat) (l : List UInt8) (h : k ≠ 0) : (act k l).length ≤ l.length := by
  match k, h with
  | 1, _ => have := wo_len false l false; simp only [act]; omega
  | 2, _ => have := wo_len true l false; have := tr_len (wo true false l); simp only [act]; omega
  | 3, _ => have := tr_len l; simp only [act]; omega
  | _ + 4, _ => simp only [act, sm_len]; omega
theorem stg_len (o : Ig) (l : List UInt8) : ∀ k, (stg o k l).length ≤ 8 * l.length := by
  intro k
  induction k with
  | zero => simp only [stg]; omega
  | succ k ih =>
    simp only [stg]
    cases ask o k
    · exact ih
    · simp only [cond_true]
      by_cases h : k = 0
      · subst h; exact act_len 0 l
      · exact Nat.le_trans (act_less k _ h) ih
theorem feed_len (l : List UInt8) : (feedL l).length ≤ 1 := by rcases feed_parts l with ⟨_, f⟩ | ⟨_, f⟩ <;> rw [f] <;> decide
theorem canon_len (o : Ig) (l : List UInt8) : (canonL o l).length ≤ 8 * l.length + 1 := by
  have := stg_len o (bareL l) 5
  have := bare_len l
  have := feed_len l
  rw [canonL, List.length_append]
  omega
end Go.Proofs.YtkaadahcefdiiaaDoor.Cn
