/-
  Texts that belong together, joined: PcMath, SpPc, SpCd, EdDrew, MiWm, EdOpen.
-/
import Derived.Test.YteplejpbgajecaaPartA1
import Derived.Test.YteplejpbgajecaaPartA3
import Derived.Test.YteplejpbgajecaaPartA2
import Derived.Test.YteplejpbgajecaaRows
import Derived.Test.YteplejpbgajecaaChecked
import Derived.ProofKit
import Derived.OpenShut
import Derived.ShutString
import Derived.ChangeOld
import Derived.Below
import Derived.SliceStrings
import Derived.ChangeSlices
import Derived.Deep.Slices
import Derived.Deep.SlicePairs
import Derived.JoinedCond

/- Pieces of two rows of classes, and what of them is kept, whatever an engine does with the middle: plain. -/
namespace Go.Proofs.Yteplejpbgajecaa

/-- x from a up to b -/
def sub (x : List Int) (a b : Nat) : List Int := (x.drop a).take (b - a)
theorem sub_length (x : List Int) (a b : Nat) (hb : b ≤ x.length) : (sub x a b).length = b - a := by
  unfold sub
  rw [List.length_take, List.length_drop]
  omega
/-- how many are the same at the front of two pieces -/
def tfN (x y : List Int) : Nat → Nat → Nat → Nat
  | 0, _, _ => 0
  | n + 1, a, c => if x[a]? = y[c]? then tfN x y n (a + 1) (c + 1) + 1 else 0
def tf (x y : List Int) (a b c d : Nat) : Nat := tfN x y (min (b - a) (d - c)) a c
theorem tf_eq (x y : List Int) (a b c d : Nat) : tf x y a b c d = if a < b ∧ c < d ∧ x[a]? = y[c]? then tf x y (a + 1) b (c + 1) d + 1 else 0 := by
  unfold tf
  by_cases h : a < b ∧ c < d
  · rw [show min (b - a) (d - c) = min (b - (a + 1)) (d - (c + 1)) + 1 by omega, tfN]
    by_cases e : x[a]? = y[c]?
    · rw [if_pos e, if_pos ⟨h.1, h.2, e⟩]
    · rw [if_neg e, if_neg (fun q => e q.2.2)]
  · rw [show min (b - a) (d - c) = 0 by omega, tfN, if_neg (fun q => h ⟨q.1, q.2.1⟩)]
/-- at the end -/
def tb (x y : List Int) (a b c d : Nat) : Nat := if a < b ∧ c < d ∧ x[b - 1]? = y[d - 1]? then tb x y a (b - 1) c (d - 1) + 1 else 0
theorem tf_le (x y : List Int) (a b c d : Nat) : tf x y a b c d ≤ b - a ∧ tf x y a b c d ≤ d - c := by
  induction h : b - a generalizing a c with
  | zero => rw [tf_eq, if_neg (by omega)]; omega
  | succ n ih =>
    rw [tf_eq]
    split
    · have := ih (a + 1) (c + 1) (by omega)
      omega
    · omega
theorem tb_le (x y : List Int) (a b c d : Nat) : tb x y a b c d ≤ b - a ∧ tb x y a b c d ≤ d - c := by
  induction h : b - a generalizing b d with
  | zero => rw [tb, if_neg (by omega)]; omega
  | succ n ih =>
    rw [tb]
    split
    · have := ih (b - 1) (d - 1) (by omega)
      omega
    · omega
/-- the pairs at the front, at the end -/
def fp (a c : Nat) : Nat → List Pr
  | 0 => []
  | k + 1 => ⟨a, c⟩ :: fp (a + 1) (c + 1) k
def bp (b d : Nat) : Nat → List Pr
  | 0 => []
  | k + 1 => ⟨(b - 1 : Nat), (d - 1 : Nat)⟩ :: bp (b - 1) (d - 1) k
/-- within these bounds -/
def Wn (a b c d : Nat) (p : Pr) : Prop := (a : Int) ≤ p.X ∧ p.X < b ∧ (c : Int) ≤ p.Y ∧ p.Y < d
theorem fp_wn (a c k : Nat) : ∀ p ∈ fp a c k, Wn a (a + k) c (c + k) p := by
  induction k generalizing a c with
  | zero => intro p hp; simp [fp] at hp
  | succ k ih =>
    intro p hp
    rw [fp] at hp
    rcases List.mem_cons.1 hp with rfl | hp
    · exact ⟨by simp, by simp; omega, by simp, by simp; omega⟩
    · have := ih (a + 1) (c + 1) p hp
      unfold Wn at this ⊢
      omega
theorem bp_wn (b d k : Nat) (hb : k ≤ b) (hd : k ≤ d) : ∀ p ∈ bp b d k, Wn (b - k) b (d - k) d p := by
  induction k generalizing b d with
  | zero => intro p hp; simp [bp] at hp
  | succ k ih =>
    intro p hp
    rw [bp] at hp
    rcases List.mem_cons.1 hp with rfl | hp
    · unfold Wn
      dsimp only
      omega
    · have := ih (b - 1) (d - 1) (by omega) (by omega) p hp
      unfold Wn at this ⊢
      omega
/-- what the least script keeps, from place a on, c further on -/
def lp (a c : Int) : List Int → List Pr
  | [] => []
  | j :: K => (if j = -1 then [] else [⟨a, c + j⟩]) ++ lp (a + 1) c K
/-- both ends, and the middle by N -/
def ends (x y : List Int) (N : Nat → Nat → Nat → Nat → List Pr) (a b c d : Nat) : List Pr :=
  fp a c (tf x y a b c d) ++ (bp b d (tb x y (a + tf x y a b c d) b (c + tf x y a b c d) d) ++
    (if a + tf x y a b c d < b - tb x y (a + tf x y a b c d) b (c + tf x y a b c d) d ∧ c + tf x y a b c d < d - tb x y (a + tf x y a b c d) b (c + tf x y a b c d) d then
      N (a + tf x y a b c d) (b - tb x y (a + tf x y a b c d) b (c + tf x y a b c d) d) (c + tf x y a b c d) (d - tb x y (a + tf x y a b c d) b (c + tf x y a b c d) d)
    else []))
/-- what is kept of two pieces, by an engine M -/
def pcs (M : (Nat → Nat → Nat → Nat → List Pr) → Nat → Nat → Nat → Nat → List Pr) (x y : List Int) : Nat → Nat → Nat → Nat → Nat → List Pr
  | 0, _, _, _, _ => []
  | f + 1, a, b, c, d => ends x y (M (pcs M x y f)) a b c d
/-- the pairs are written down -/
def wrk (K : List Int) (l : List Pr) : List Int := l.foldl (fun K p => K.set p.X.toNat p.Y) K
theorem wrk_append (K : List Int) (a b : List Pr) : wrk K (a ++ b) = wrk (wrk K a) b := by simp [wrk]
theorem wrk_cons (K : List Int) (p : Pr) (b : List Pr) : wrk K (p :: b) = wrk (K.set p.X.toNat p.Y) b := rfl
theorem wrk_length (K : List Int) (l : List Pr) : (wrk K l).length = K.length := by
  induction l generalizing K with
  | nil => rfl
  | cons p l ih => rw [wrk_cons, ih, List.length_set]
/-- a pair elsewhere may be written first -/
theorem wrk_comm (K : List Int) (l : List Pr) (u : Nat) (v : Int) (h : ∀ p ∈ l, p.X.toNat ≠ u) : wrk (K.set u v) l = (wrk K l).set u v := by
  induction l generalizing K with
  | nil => rfl
  | cons p l ih =>
    rw [wrk_cons, wrk_cons, List.set_comm _ _ (fun e => h p (List.mem_cons_self ..) e.symm), ih _ (fun q hq => h q (List.mem_cons_of_mem _ hq))]

theorem tf_same (x y : List Int) (a b c d : Nat) : ∀ i, i < tf x y a b c d → x[a + i]? = y[c + i]? := by
  induction h : b - a generalizing a c with
  | zero => intro i hi; rw [tf_eq, if_neg (by omega)] at hi; omega
  | succ n ih =>
    intro i hi
    rw [tf_eq] at hi
    split at hi
    · rename_i hh
      cases i with
      | zero => exact hh.2.2
      | succ i =>
        have := ih (a + 1) (c + 1) (by omega) i (by omega)
        rw [show a + (i + 1) = a + 1 + i by omega, show c + (i + 1) = c + 1 + i by omega]
        exact this
    · omega
theorem tb_same (x y : List Int) (a b c d : Nat) : ∀ i, i < tb x y a b c d → x[b - (i + 1)]? = y[d - (i + 1)]? := by
  induction h : b - a generalizing b d with
  | zero => intro i hi; rw [tb, if_neg (by omega)] at hi; omega
  | succ n ih =>
    intro i hi
    rw [tb] at hi
    split at hi
    · rename_i hh
      cases i with
      | zero => exact hh.2.2
      | succ i =>
        have := ih (b - 1) (d - 1) (by omega) i (by omega)
        rw [show b - (i + 1 + 1) = b - 1 - (i + 1) by omega, show d - (i + 1 + 1) = d - 1 - (i + 1) by omega]
        exact this
    · omega
/-- any two are the same, or one is above the other -/
def Ris (l : List Pr) : Prop := ∀ p ∈ l, ∀ q ∈ l, p = q ∨ ab q p ∨ ab p q
/-- within these bounds, rising, and of the same class -/
structure Okp (x y : List Int) (a b c d : Nat) (l : List Pr) : Prop where
  wn : ∀ p ∈ l, Wn a b c d p
  ris : Ris l
  eqs : ∀ p ∈ l, x[p.X.toNat]? = y[p.Y.toNat]?
section
variable {x y : List Int}
theorem Okp.nil (a b c d : Nat) : Okp x y a b c d [] := ⟨fun p hp => by simp at hp, fun p hp => by simp at hp, fun p hp => by simp at hp⟩
theorem Okp.mono {a b c d a' b' c' d' : Nat} {l : List Pr} (h : Okp x y a b c d l) (ha : a' ≤ a) (hb : b ≤ b') (hc : c' ≤ c) (hd : d ≤ d') : Okp x y a' b' c' d' l := ⟨fun p hp => by have := h.wn p hp; unfold Wn at this ⊢; omega, h.ris, h.eqs⟩
theorem Okp.one {a c : Nat} (h : x[a]? = y[c]?) : Okp x y a (a + 1) c (c + 1) [⟨a, c⟩] := ⟨fun p hp => by simp at hp; subst hp; unfold Wn; dsimp only; omega, fun p hp q hq => by simp at hp hq; subst hp; subst hq; exact .inl rfl, fun p hp => by simp at hp; subst hp; simpa using h⟩
theorem Okp.cat {a b c d a' b' c' d' A B C D : Nat} {l l' : List Pr} (h : Okp x y a b c d l) (h' : Okp x y a' b' c' d' l') (hs : (b ≤ a' ∧ d ≤ c') ∨ (b' ≤ a ∧ d' ≤ c)) (h1 : A ≤ a ∧ A ≤ a') (h2 : b ≤ B ∧ b' ≤ B) (h3 : C ≤ c ∧ C ≤ c') (h4 : d ≤ D ∧ d' ≤ D) : Okp x y A B C D (l ++ l') := by
  refine ⟨fun p hp => ?_, fun p hp q hq => ?_, fun p hp => ?_⟩
  · rcases List.mem_append.1 hp with hp | hp
    · exact (h.mono h1.1 h2.1 h3.1 h4.1).wn p hp
    · exact (h'.mono h1.2 h2.2 h3.2 h4.2).wn p hp
  · rcases List.mem_append.1 hp with hp | hp <;> rcases List.mem_append.1 hq with hq | hq
    · exact h.ris p hp q hq
    · have e1 := h.wn p hp
      have e2 := h'.wn q hq
      unfold Wn at e1 e2
      rcases hs with hs | hs
      · exact .inr (.inl ⟨by omega, by omega⟩)
      · exact .inr (.inr ⟨by omega, by omega⟩)
    · have e1 := h'.wn p hp
      have e2 := h.wn q hq
      unfold Wn at e1 e2
      rcases hs with hs | hs
      · exact .inr (.inr ⟨by omega, by omega⟩)
      · exact .inr (.inl ⟨by omega, by omega⟩)
    · exact h'.ris p hp q hq
  · rcases List.mem_append.1 hp with hp | hp
    · exact h.eqs p hp
    · exact h'.eqs p hp
theorem fp_ok (a c k : Nat) (h : ∀ i, i < k → x[a + i]? = y[c + i]?) : Okp x y a (a + k) c (c + k) (fp a c k) := by
  induction k generalizing a c with
  | zero => exact Okp.nil _ _ _ _
  | succ k ih => exact (Okp.one (h 0 (by omega))).cat (ih (a + 1) (c + 1) (fun i hi => by have := h (i + 1) (by omega); rw [show a + 1 + i = a + (i + 1) by omega, show c + 1 + i = c + (i + 1) by omega]; exact this)) (.inl ⟨by omega, by omega⟩) ⟨by omega, by omega⟩ ⟨by omega, by omega⟩ ⟨by omega, by omega⟩ ⟨by omega, by omega⟩
theorem bp_ok (b d k : Nat) (hb : k ≤ b) (hd : k ≤ d) (h : ∀ i, i < k → x[b - (i + 1)]? = y[d - (i + 1)]?) : Okp x y (b - k) b (d - k) d (bp b d k) := by
  induction k generalizing b d with
  | zero => exact Okp.nil _ _ _ _
  | succ k ih =>
    have h0 : Okp x y (b - 1) (b - 1 + 1) (d - 1) (d - 1 + 1) [⟨(b - 1 : Nat), (d - 1 : Nat)⟩] := Okp.one (by simpa using h 0 (by omega))
    exact h0.cat (ih (b - 1) (d - 1) (by omega) (by omega) (fun i hi => by have := h (i + 1) (by omega); rw [show b - 1 - (i + 1) = b - (i + 1 + 1) by omega, show d - 1 - (i + 1) = d - (i + 1 + 1) by omega]; exact this)) (.inr ⟨by omega, by omega⟩) ⟨by omega, by omega⟩ ⟨by omega, by omega⟩ ⟨by omega, by omega⟩ ⟨by omega, by omega⟩
theorem lp_ok (K : List Int) : ∀ (a c nx m : Nat), Vk nx m K → (∀ (i q : Nat), K[i]? = some (q : Int) → x[a + i]? = y[c + q]?) → Okp x y a (a + K.length) (c + nx) (c + m) (lp a c K) := by
  induction K with
  | nil => intro a c nx m _ _; exact Okp.nil _ _ _ _
  | cons z K ih =>
    intro a c nx m h hs
    rw [lp]
    simp only [List.length_cons]
    have hs' : ∀ (i q : Nat), K[i]? = some (q : Int) → x[a + 1 + i]? = y[c + q]? := fun i q hi => by
      have := hs (i + 1) q (by simpa using hi)
      rw [show a + 1 + i = a + (i + 1) by omega]
      exact this
    rcases h with ⟨hz, h⟩ | ⟨hz, h1, h2, h⟩
    · rw [if_pos hz, List.nil_append]
      exact (ih (a + 1) c nx m h hs').mono (by omega) (by omega) (by omega) (by omega)
    · rw [if_neg hz]
      obtain ⟨j, rfl⟩ : ∃ j : Nat, z = j := ⟨z.toNat, by omega⟩
      have e1 : Okp x y a (a + 1) (c + j) (c + j + 1) [⟨(a : Int), (c : Int) + (j : Int)⟩] := by simpa using Okp.one (x := x) (y := y) (a := a) (c := c + j) (by simpa using hs 0 j (by simp))
      exact e1.cat (ih (a + 1) c (j + 1) m (by simpa using h) hs') (.inl ⟨by omega, by omega⟩) ⟨by omega, by omega⟩ ⟨by omega, by omega⟩ ⟨by omega, by omega⟩ ⟨by omega, by omega⟩
end
theorem sub_at (x : List Int) (a b i : Nat) (hi : i < b - a) : (sub x a b)[i]? = x[a + i]? := by
  unfold sub
  rw [List.getElem?_take_of_lt hi, List.getElem?_drop]
theorem sub_some {x : List Int} {a b i : Nat} {z : Int} (h : (sub x a b)[i]? = some z) : i < b - a ∧ x[a + i]? = some z := by
  have h1 := (List.getElem?_eq_some_iff.1 h).1
  unfold sub at h1
  rw [List.length_take] at h1
  exact ⟨by omega, by rw [← sub_at x a b i (by omega)]; exact h⟩
/-- what the least script keeps of a middle -/
theorem least_ok (x y : List Int) (a b c d : Nat) (hab : a ≤ b) (hb : b ≤ x.length) (hcd : c ≤ d) (hd : d ≤ y.length) : Okp x y a b c d (lp a c (kp 0 (sub x a b) (sub y c d))) := by
  have h1 := lp_ok (x := x) (y := y) (kp 0 (sub x a b) (sub y c d)) a c 0 (d - c) (by
    have := kp_vk 0 (sub x a b) (sub y c d) (Int.le_refl _)
    rw [sub_length y _ _ (by omega), Int.zero_add] at this
    exact this) (fun i q hq => by
      obtain ⟨_, z, h1, h2⟩ := kp_same 0 _ _ (Int.le_refl _) i q hq (by omega)
      rw [show ((q : Int) - 0).toNat = q by omega] at h2
      rw [(sub_some h1).2, (sub_some h2).2])
  rw [kp_length, sub_length x _ _ (by omega)] at h1
  exact h1.mono (Nat.le_refl _) (by omega) (by omega) (by omega)
theorem ends_ok (x y : List Int) (N : Nat → Nat → Nat → Nat → List Pr) (a b c d : Nat) (hab : a ≤ b) (_ : b ≤ x.length) (hcd : c ≤ d) (_ : d ≤ y.length) (hN : ∀ a' b' c' d', a ≤ a' → a' < b' → b' ≤ b → c ≤ c' → c' < d' → d' ≤ d → Okp x y a' b' c' d' (N a' b' c' d')) : Okp x y a b c d (ends x y N a b c d) := by
  unfold ends
  have hk := tf_le x y a b c d
  have hks := tf_same x y a b c d
  generalize tf x y a b c d = k at hk hks ⊢
  have hm := tb_le x y (a + k) b (c + k) d
  have hms := tb_same x y (a + k) b (c + k) d
  generalize tb x y (a + k) b (c + k) d = m at hm hms ⊢
  have hmid : Okp x y (a + k) (b - m) (c + k) (d - m) (if a + k < b - m ∧ c + k < d - m then N (a + k) (b - m) (c + k) (d - m) else []) := by
    split
    · rename_i h
      exact hN _ _ _ _ (by omega) h.1 (by omega) (by omega) h.2 (by omega)
    · exact Okp.nil _ _ _ _
  have h1 := fp_ok (x := x) (y := y) a c k hks
  have h2 := bp_ok (x := x) (y := y) b d m (by omega) (by omega) hms
  exact h1.cat (h2.cat hmid (.inr ⟨by omega, by omega⟩) (A := a + k) (B := b) (C := c + k) (D := d) ⟨by omega, by omega⟩ ⟨by omega, by omega⟩ ⟨by omega, by omega⟩ ⟨by omega, by omega⟩) (.inl ⟨by omega, by omega⟩) ⟨by omega, by omega⟩ ⟨by omega, by omega⟩ ⟨by omega, by omega⟩ ⟨by omega, by omega⟩
/-- an engine that goes on with shorter pieces keeps what is right, if they do -/
def MOk (M : (Nat → Nat → Nat → Nat → List Pr) → Nat → Nat → Nat → Nat → List Pr) (x y : List Int) : Prop := ∀ (rec : Nat → Nat → Nat → Nat → List Pr) (a b c d : Nat), a < b → b ≤ x.length → c < d → d ≤ y.length → (∀ a' b' c' d', a' ≤ b' → b' ≤ x.length → c' ≤ d' → d' ≤ y.length → Okp x y a' b' c' d' (rec a' b' c' d')) → Okp x y a b c d (M rec a b c d)
theorem pcs_ok {M : (Nat → Nat → Nat → Nat → List Pr) → Nat → Nat → Nat → Nat → List Pr} {x y : List Int} (hM : MOk M x y) (f : Nat) : ∀ a b c d, a ≤ b → b ≤ x.length → c ≤ d → d ≤ y.length → Okp x y a b c d (pcs M x y f a b c d) := by
  induction f with
  | zero => intro a b c d _ _ _ _; exact Okp.nil _ _ _ _
  | succ f ih =>
    intro a b c d hab hb hcd hd
    rw [pcs]
    exact ends_ok x y _ a b c d hab hb hcd hd (fun a' b' c' d' _ h2 h3 _ h5 h6 => hM _ a' b' c' d' h2 (by omega) h5 (by omega) ih)

/-- what stands at a place behind the writing -/
theorem wrk_get (l : List Pr) : ∀ (K : List Int) (i : Nat) (z : Int), (wrk K l)[i]? = some z → K[i]? = some z ∨ ∃ p ∈ l, p.X.toNat = i ∧ p.Y = z := by
  induction l with
  | nil => intro K i z h; exact .inl h
  | cons p l ih =>
    intro K i z h
    rw [wrk_cons] at h
    rcases ih _ i z h with h | ⟨q, hq, h⟩
    · by_cases e : p.X.toNat = i
      · subst e
        by_cases hl : p.X.toNat < K.length
        · rw [List.getElem?_set_self hl] at h
          cases h
          exact .inr ⟨p, List.mem_cons_self .., rfl, rfl⟩
        · rw [List.getElem?_eq_none (by rw [List.length_set]; omega)] at h
          cases h
      · rw [List.getElem?_set_ne e] at h
        exact .inl h
    · exact .inr ⟨q, List.mem_cons_of_mem _ hq, h⟩
theorem vk_of (K : List Int) : ∀ (nx m : Int), (∀ z ∈ K, z = -1 ∨ (nx ≤ z ∧ z < m)) → K.Pairwise (fun z z' => z = -1 ∨ z' = -1 ∨ z < z') → Vk nx m K := by
  induction K with
  | nil => intro _ _ _ _; trivial
  | cons z K ih =>
    intro nx m h1 h2
    have h2' := List.pairwise_cons.1 h2
    by_cases hz : z = -1
    · exact .inl ⟨hz, ih nx m (fun y hy => h1 y (List.mem_cons_of_mem _ hy)) h2'.2⟩
    · have h3 := (h1 z (List.mem_cons_self ..)).resolve_left hz
      refine .inr ⟨hz, h3.1, h3.2, ih (z + 1) m (fun y hy => ?_) h2'.2⟩
      rcases h1 y (List.mem_cons_of_mem _ hy) with e | e
      · exact .inl e
      · rcases h2'.1 y hy with q | q | q
        · exact absurd q hz
        · exact .inl q
        · exact .inr ⟨by omega, e.2⟩
/-- what is written is a keeping -/
theorem wrk_vk {x y : List Int} (n m : Nat) (l : List Pr) (h : Okp x y 0 n 0 m l) : Vk 0 m (wrk (List.replicate n (-1)) l) := by
  have hget : ∀ (i : Nat) (z : Int), (wrk (List.replicate n (-1)) l)[i]? = some z → z = -1 ∨ ∃ p ∈ l, p.X = i ∧ p.Y = z := fun i z hz => by
    rcases wrk_get l _ i z hz with q | ⟨p, hp, q1, q2⟩
    · left
      rw [List.getElem?_replicate] at q
      split at q
      · cases q; rfl
      · cases q
    · have := h.wn p hp
      unfold Wn at this
      exact .inr ⟨p, hp, by omega, q2⟩
  refine vk_of _ 0 m (fun z hz => ?_) (List.pairwise_iff_getElem.2 fun i j hi hj hij => ?_)
  · obtain ⟨i, hi, e⟩ := List.getElem_of_mem hz
    rcases hget i z (by rw [List.getElem?_eq_getElem hi, e]) with q | ⟨p, hp, _, q2⟩
    · exact .inl q
    · have := h.wn p hp
      unfold Wn at this
      exact .inr ⟨by omega, by omega⟩
  · rcases hget i _ (List.getElem?_eq_getElem hi) with q | ⟨p, hp, p1, p2⟩
    · exact .inl q
    · rcases hget j _ (List.getElem?_eq_getElem hj) with q | ⟨q, hq, q1, q2⟩
      · exact .inr (.inl q)
      · refine .inr (.inr ?_)
        rw [← p2, ← q2]
        rcases h.ris p hp q hq with e | e | e
        · subst e
          omega
        · exact e.2
        · have := e.1
          omega

/-- what is written of pairs is found there -/
theorem wrk_has (l : List Pr) (n : Nat) (hr : Ris l) (hw : ∀ p ∈ l, 0 ≤ p.X ∧ p.X < n) : ∀ K : List Int, K.length = n → ∀ p ∈ l, (wrk K l)[p.X.toNat]? = some p.Y := by
  induction l with
  | nil => intro K _ p hp; simp at hp
  | cons q l ih =>
    intro K hK p hp
    rw [wrk_cons]
    have ih' := ih (fun a ha b hb => hr a (List.mem_cons_of_mem _ ha) b (List.mem_cons_of_mem _ hb)) (fun a ha => hw a (List.mem_cons_of_mem _ ha)) (K.set q.X.toNat q.Y) (by rw [List.length_set]; exact hK)
    by_cases h : p ∈ l
    · exact ih' p h
    · have e : p = q := (List.mem_cons.1 hp).resolve_right h
      subst e
      have hb := hw p (List.mem_cons_self ..)
      by_cases hx : ∃ r ∈ l, r.X.toNat = p.X.toNat
      · obtain ⟨r, h1, h2⟩ := hx
        have hrb := hw r (List.mem_cons_of_mem _ h1)
        rcases hr p (List.mem_cons_self ..) r (List.mem_cons_of_mem _ h1) with e | e | e
        · subst e; exact ih' p h1
        · have := e.1; omega
        · have := e.1; omega
      · rw [wrk_comm K l _ _ (fun r h1 h2 => hx ⟨r, h1, h2⟩), List.getElem?_set_self (by rw [wrk_length]; omega)]
/-- what both texts keep: all that the laws ask -/
theorem hon_le (K : List Int) : ∀ (x y : List Int) (nx : Nat), Vk nx y.length K → K.length = x.length → (∀ (i q : Nat), K[i]? = some (q : Int) → x[i]? = y[q]?) → prs K ≤ lc x (y.drop nx) := by
  induction K with
  | nil => intro x y nx _ _ _; simp [prs]
  | cons z K ih =>
    intro x y nx hV hl hs
    cases x with
    | nil => simp at hl
    | cons e x =>
      have hs' : ∀ (i q : Nat), K[i]? = some (q : Int) → x[i]? = y[q]? := fun i q hi => by simpa using hs (i + 1) q (by simpa using hi)
      rcases hV with ⟨hz, h⟩ | ⟨hz, h1, h2, h⟩
      · subst hz
        have := ih x y nx h (by simpa using hl) hs'
        have h2 := lc_mono (List.sublist_cons_self e x) (List.Sublist.refl (y.drop nx))
        have h3 : prs (-1 :: K) = prs K := by simp [prs]
        omega
      · obtain ⟨q, rfl⟩ : ∃ j : Nat, z = j := ⟨z.toNat, by omega⟩
        have hq : q < y.length := by omega
        have h0 := hs 0 q (by simp)
        rw [List.getElem?_eq_getElem hq] at h0
        simp at h0
        have := ih x y (q + 1) (by simpa using h) (by simpa using hl) hs'
        have e2 : y.drop q = e :: y.drop (q + 1) := by rw [List.drop_eq_getElem_cons hq, h0]
        have h4 : lc (e :: x) (y.drop q) = lc x (y.drop (q + 1)) + 1 := by rw [e2, lc_ahead]
        have h5 : (y.drop q).Sublist (y.drop nx) := by
          rw [show q = nx + (q - nx) by omega, ← List.drop_drop]
          exact List.drop_sublist _ _
        have h6 := lc_mono (List.Sublist.refl (e :: x)) h5
        have h7 : prs ((q : Int) :: K) = prs K + 1 := by simp [prs]
        omega
theorem mk_id (n : Nat) : mkL ((List.range n).map fun (j : Nat) => (0 : Int) + (j : Int)) n = [] := by
  unfold mkL
  rw [keptR_run 0 0 (Int.le_refl _)]
  have := betw_un 0 0 n [⟨(n : Int), (n : Int), 0⟩]
  simp at this ⊢
  first | (rw [this]; simp [betw]) | simpa [betw] using this
/-- no changes: the same texts -/
theorem nil_same {K x y : List Int} (hV : Vk 0 y.length K) (hl : K.length = x.length) (hs : ∀ (i q : Nat), K[i]? = some (q : Int) → x[i]? = y[q]?) (hx : x.length ≤ 4096) (hy : y.length ≤ 4096) (h : mkL K y.length = []) : x = y := by
  obtain ⟨⟨_, _, hS⟩, hU⟩ := mk_script hV (by omega) (by omega) (by rw [hl]; omega)
  rw [h] at hS hU
  rw [U_nil] at hU
  have hnm : x.length = y.length := by
    have h1 := hS.2.2
    rw [hl] at h1
    omega
  apply List.ext_getElem? 
  intro i
  by_cases hi : i < x.length
  · have hm : (⟨(i : Int), (i : Int), 1⟩ : Rn) ∈ keptR 0 K := by
      rw [← hU, mem_un]
      rw [hl]
      refine ⟨rfl, ?_, ?_, ?_⟩ <;> dsimp only <;> omega
    rw [mem_keptR] at hm
    obtain ⟨_, _, h3, _⟩ := hm
    dsimp only at h3
    rw [show ((i : Int) - 0).toNat = i by omega] at h3
    exact hs i i h3
  · rw [List.getElem?_eq_none (by omega), List.getElem?_eq_none (by omega)]
/-- what is kept at the front: the first change stands behind it -/
theorem front_le {K : List Int} {m : Nat} (hV : Vk 0 m K) (hl : K.length ≤ 4096) (hm : m ≤ 4096) {c : Ch} {L : List Ch} (h : mkL K m = c :: L) (k : Nat) (hk : ∀ i, i < k → K[i]? = some (i : Int)) : (k : Int) ≤ c.A := by
  obtain ⟨hS, hkm, _⟩ := keep_mk hV (by omega) (by omega) (by omega)
  rw [h] at hS hkm
  have hR := hS.2.2
  obtain ⟨⟨h1, h2, h3, h4⟩, h5⟩ := hR
  rw [numB_iff] at h1
  refine Int.not_lt.1 fun hlt => ?_
  have hA := hk c.A.toNat (by omega)
  have e : keepL (c :: L) K.length m = kr 0 0 K.length m (c :: L) := rfl
  rw [e, kr_cons] at hkm
  by_cases hAN : 0 < c.AN
  · rw [← hkm, List.getElem?_append_left (by simp; omega), List.getElem?_append_right (by simp)] at hA
    simp [List.getElem?_replicate] at hA
    omega
  · have hrest : (kr (c.A + c.AN) (c.B + c.BN) K.length m L)[0]? = some c.A := by
      rw [← hkm, List.getElem?_append_right (by simp; omega)] at hA
      simp at hA
      rw [hA]
      congr 1
      omega
    have hmem : (⟨c.A + c.AN, c.A, 1⟩ : Rn) ∈ keptR (c.A + c.AN) (kr (c.A + c.AN) (c.B + c.BN) K.length m L) := by
      rw [mem_keptR]
      refine ⟨rfl, Int.le_refl _, ?_, by dsimp only; omega⟩
      dsimp only
      rw [show (c.A + c.AN - (c.A + c.AN)).toNat = 0 by omega]
      exact hrest
    rw [kr_kept h5 (by omega)] at hmem
    have := h5.bounds _ hmem
    dsimp only at this
    omega
/-- all that is written of a right list of pairs -/
structure Kpt (x y K : List Int) : Prop where
  vk : Vk 0 y.length K
  len : K.length = x.length
  eqs : ∀ (i q : Nat), K[i]? = some (q : Int) → x[i]? = y[q]?
theorem Okp.kpt {x y : List Int} {l : List Pr} (h : Okp x y 0 x.length 0 y.length l) : Kpt x y (wrk (List.replicate x.length (-1)) l) := by
  refine ⟨wrk_vk _ _ _ h, by rw [wrk_length]; simp, fun i q hq => ?_⟩
  rcases wrk_get l _ i q hq with e | ⟨p, hp, e1, e2⟩
  · rw [List.getElem?_replicate] at e
    split at e
    · simp at e
    · cases e
  · have h1 := h.eqs p hp
    rw [e1, e2] at h1
    simpa using h1
theorem Okp.at {x y : List Int} {l : List Pr} (h : Okp x y 0 x.length 0 y.length l) {p : Pr} (hp : p ∈ l) : (wrk (List.replicate x.length (-1)) l)[p.X.toNat]? = some p.Y :=
  wrk_has l x.length h.ris (fun q hq => by have := h.wn q hq; unfold Wn at this; omega) _ (by simp) p hp
theorem mem_fp {a c k : Nat} {p : Pr} : p ∈ fp a c k ↔ ∃ i, i < k ∧ p = ⟨(a + i : Nat), (c + i : Nat)⟩ := by
  induction k generalizing a c with
  | zero => simp [fp]
  | succ k ih =>
    rw [fp, List.mem_cons, ih]
    constructor
    · rintro (rfl | ⟨i, hi, rfl⟩)
      · exact ⟨0, by omega, by simp⟩
      · exact ⟨i + 1, by omega, by rw [show a + 1 + i = a + (i + 1) by omega, show c + 1 + i = c + (i + 1) by omega]⟩
    · rintro ⟨i, hi, rfl⟩
      cases i with
      | zero => left; simp
      | succ i => exact .inr ⟨i, by omega, by rw [show a + 1 + i = a + (i + 1) by omega, show c + 1 + i = c + (i + 1) by omega]⟩
theorem tf_all (x : List Int) (a b : Nat) : tf x x a b a b = b - a := by
  induction h : b - a generalizing a with
  | zero => rw [tf_eq, if_neg (by omega)]
  | succ n ih => rw [tf_eq, if_pos ⟨by omega, by omega, rfl⟩, ih (a + 1) (by omega)]
end Go.Proofs.Yteplejpbgajecaa

/- What speedy keeps: plain. -/
namespace Go.Proofs.Yteplejpbgajecaa

/-- the least place from nx on, fewer than far behind it, at which y has c -/
def gdn (c : Int) (y : List Int) (nx : Nat) (far : Int) : Option Nat := match (y.drop nx).findIdx? (fun z => z == c) with
  | some k => if (k : Int) < far then some (nx + k) else none
  | none => none
/-- what is kept by going through both once -/
def gdy (y : List Int) (far : Int) : Nat → List Int → List Int
  | _, [] => []
  | nx, c :: x => match gdn c y nx far with
    | some j => (j : Int) :: gdy y far (j + 1) x
    | none => -1 :: gdy y far nx x
theorem gdn_some {c : Int} {y : List Int} {nx j : Nat} {far : Int} (h : gdn c y nx far = some j) : nx ≤ j ∧ j < y.length ∧ ((j - nx : Nat) : Int) < far ∧ y[j]? = some c ∧ ∀ i, nx ≤ i → i < j → y[i]? ≠ some c := by
  unfold gdn at h
  split at h
  · rename_i k hk
    split at h
    · rename_i hf
      obtain rfl := Option.some.inj h
      obtain ⟨h1, h2, h3⟩ := List.findIdx?_eq_some_iff_getElem.1 hk
      rw [List.length_drop] at h1
      rw [List.getElem_drop] at h2
      refine ⟨by omega, by omega, by rw [show nx + k - nx = k by omega]; exact hf, ?_, fun i hi hj e => ?_⟩
      · rw [List.getElem?_eq_getElem (by omega)]
        rw [beq_iff_eq.1 h2]
      · have h4 := h3 (i - nx) (by omega)
        rw [List.getElem_drop] at h4
        rw [List.getElem?_eq_getElem (by omega)] at e
        have e2 : y[nx + (i - nx)]'(by omega) = c := by
          rw [← Option.some.inj e]
          congr 1
          omega
        rw [e2] at h4
        simp at h4
    · cases h
  · cases h
theorem gdn_none {c : Int} {y : List Int} {nx : Nat} {far : Int} (h : gdn c y nx far = none) (j : Nat) (h1 : nx ≤ j) (h2 : ((j - nx : Nat) : Int) < far) : y[j]? ≠ some c := by
  intro e
  unfold gdn at h
  obtain ⟨hj, ej⟩ := List.getElem?_eq_some_iff.1 e
  split at h
  · rename_i k hk
    split at h
    · cases h
    · rename_i hf
      obtain ⟨_, _, h3⟩ := List.findIdx?_eq_some_iff_getElem.1 hk
      have h4 := h3 (j - nx) (by omega)
      rw [List.getElem_drop] at h4
      have e2 : y[nx + (j - nx)]'(by omega) = c := by
        rw [← ej]
        congr 1
        omega
      rw [e2] at h4
      simp at h4
  · rename_i hk
    have h3 := List.findIdx?_eq_none_iff.1 hk c (by
      rw [List.mem_iff_getElem?]
      exact ⟨j - nx, by rw [List.getElem?_drop, show nx + (j - nx) = j by omega]; exact e⟩)
    simp at h3
theorem gdy_length (y : List Int) (far : Int) (x : List Int) : ∀ nx, (gdy y far nx x).length = x.length := by
  induction x with
  | nil => intro nx; rfl
  | cons c x ih =>
    intro nx
    rw [gdy]
    split
    · rw [List.length_cons, ih, List.length_cons]
    · rw [List.length_cons, ih, List.length_cons]
theorem gdy_vk (y : List Int) (far : Int) (x : List Int) : ∀ nx : Nat, Vk nx y.length (gdy y far nx x) := by
  induction x with
  | nil => intro nx; exact trivial
  | cons c x ih =>
    intro nx
    rw [gdy]
    split
    · rename_i j hj
      obtain ⟨h1, h2, _⟩ := gdn_some hj
      refine .inr ⟨by omega, by omega, by omega, ?_⟩
      have := ih (j + 1)
      rw [show ((j + 1 : Nat) : Int) = (j : Int) + 1 by omega] at this
      exact this
    · exact .inl ⟨rfl, ih nx⟩
theorem gdy_same (y : List Int) (far : Int) (x : List Int) : ∀ (nx i q : Nat), (gdy y far nx x)[i]? = some (q : Int) → x[i]? = y[q]? := by
  induction x with
  | nil => intro nx i q h; simp [gdy] at h
  | cons c x ih =>
    intro nx i q h
    rw [gdy] at h
    split at h
    · rename_i j hj
      cases i with
      | zero =>
        have e : (j : Int) = (q : Int) := by simpa using h
        obtain rfl : j = q := by omega
        rw [(gdn_some hj).2.2.2.1]
        rfl
      | succ i => exact ih (j + 1) i q (by simpa using h)
    · cases i with
      | zero => simp at h
      | succ i => exact ih nx i q (by simpa using h)

/-- what is kept of a middle, by the bound -/
def smid (B : Int) (x y : List Int) (_ : Nat → Nat → Nat → Nat → List Pr) (a b c d : Nat) : List Pr :=
  if ((b - a : Nat) : Int) * ((d - c : Nat) : Int) ≤ max 0 B then lp a c (kp 0 (sub x a b) (sub y c d)) else lp a c (gdy (sub y c d) 64 0 (sub x a b))
theorem gdy_ok (x y : List Int) (far : Int) (a b c d : Nat) (hab : a ≤ b) (hb : b ≤ x.length) (hcd : c ≤ d) (hd : d ≤ y.length) : Okp x y a b c d (lp a c (gdy (sub y c d) far 0 (sub x a b))) := by
  have h1 := lp_ok (x := x) (y := y) (gdy (sub y c d) far 0 (sub x a b)) a c 0 (d - c) (by
    have := gdy_vk (sub y c d) far (sub x a b) 0
    rw [sub_length y _ _ (by omega)] at this
    exact this) (fun i q hq => by
      have hl : i < (sub x a b).length := by
        have := (List.getElem?_eq_some_iff.1 hq).1
        rw [gdy_length] at this
        exact this
      have h2 := gdy_same (sub y c d) far (sub x a b) 0 i q hq
      have h3 := List.getElem?_eq_getElem hl
      rw [(sub_some h3).2, (sub_some (h2.symm.trans h3)).2])
  rw [gdy_length, sub_length x _ _ (by omega)] at h1
  exact h1.mono (Nat.le_refl _) (by omega) (by omega) (by omega)
theorem smid_ok (B : Int) (x y : List Int) : MOk (smid B x y) x y := by
  intro rec a b c d hab hb hcd hd _
  unfold smid
  split
  · exact least_ok x y a b c d (by omega) hb (by omega) hd
  · exact gdy_ok x y 64 a b c d (by omega) hb (by omega) hd
/-- what speedy keeps -/
def sKeep (B : Int) (x y : List Int) : List Int := wrk (List.replicate x.length (-1)) (pcs (smid B x y) x y (x.length + 1) 0 x.length 0 y.length)
theorem sKeep_ok (B : Int) (x y : List Int) : Okp x y 0 x.length 0 y.length (pcs (smid B x y) x y (x.length + 1) 0 x.length 0 y.length) := pcs_ok (smid_ok B x y) _ 0 x.length 0 y.length (Nat.zero_le _) (Nat.le_refl _) (Nat.zero_le _) (Nat.le_refl _)
theorem sKeep_kpt (B : Int) (x y : List Int) : Kpt x y (sKeep B x y) := (sKeep_ok B x y).kpt
theorem sKeep_front (B : Int) (x y : List Int) (i : Nat) (hi : i < tf x y 0 x.length 0 y.length) : (sKeep B x y)[i]? = some (i : Int) := by
  have hm : (⟨(i : Int), (i : Int)⟩ : Pr) ∈ pcs (smid B x y) x y (x.length + 1) 0 x.length 0 y.length := by
    rw [pcs, ends, List.mem_append]
    exact .inl (mem_fp.2 ⟨i, hi, by simp⟩)
  have := (sKeep_ok B x y).at hm
  simpa [sKeep] using this
theorem sKeep_nil (B : Int) (x y : List Int) (hx : x.length ≤ 4096) (hy : y.length ≤ 4096) : mkL (sKeep B x y) y.length = [] ↔ x = y := by
  constructor
  · exact nil_same (sKeep_kpt B x y).vk (sKeep_kpt B x y).len (sKeep_kpt B x y).eqs hx hy
  · rintro rfl
    have e : sKeep B x x = (List.range x.length).map fun (j : Nat) => (0 : Int) + (j : Int) := by
      apply List.ext_getElem?
      intro i
      by_cases hi : i < x.length
      · rw [sKeep_front B x x i (by rw [tf_all]; omega)]
        simp [hi]
      · rw [List.getElem?_eq_none (by rw [(sKeep_kpt B x x).len]; omega), List.getElem?_eq_none (by simp; omega)]
    rw [e]
    exact mk_id x.length
theorem sKeep_le (B : Int) (x y : List Int) : prs (sKeep B x y) ≤ lc x y := by
  have := hon_le (sKeep B x y) x y 0 (sKeep_kpt B x y).vk (sKeep_kpt B x y).len (sKeep_kpt B x y).eqs
  simpa using this

theorem lc_pre (p u v : List Int) : lc (p ++ u) (p ++ v) = p.length + lc u v := by
  induction p with
  | nil => simp
  | cons c p ih => rw [List.cons_append, List.cons_append, lc_ahead, ih, List.length_cons]; omega
theorem lc_suf (u v s : List Int) : lc (u ++ s) (v ++ s) = lc u v + s.length := by
  rw [← lc_rev, List.reverse_append, List.reverse_append, lc_pre, lc_rev, List.length_reverse]
  omega
/-- both ends go off -/
theorem lc_mid (x y : List Int) (k m : Nat) (hx : k + m ≤ x.length) (hy : k + m ≤ y.length) (h1 : ∀ i, i < k → x[i]? = y[i]?) (h2 : ∀ i, i < m → x[x.length - (i + 1)]? = y[y.length - (i + 1)]?) : lc x y = k + lc (sub x k (x.length - m)) (sub y k (y.length - m)) + m := by
  have e (z : List Int) (hz : k + m ≤ z.length) : z = z.take k ++ (sub z k (z.length - m) ++ z.drop (z.length - m)) := by
    have e1 : z.drop k = sub z k (z.length - m) ++ z.drop (z.length - m) := by
      unfold sub
      have := (List.take_append_drop (z.length - m - k) (z.drop k)).symm
      rw [List.drop_drop, show k + (z.length - m - k) = z.length - m by omega] at this
      exact this
    rw [← e1, List.take_append_drop]
  have ep : x.take k = y.take k := by
    apply List.ext_getElem?
    intro i
    by_cases hi : i < k
    · rw [List.getElem?_take_of_lt hi, List.getElem?_take_of_lt hi, h1 i hi]
    · rw [List.getElem?_eq_none (by simp; omega), List.getElem?_eq_none (by simp; omega)]
  have es : x.drop (x.length - m) = y.drop (y.length - m) := by
    apply List.ext_getElem?
    intro i
    by_cases hi : i < m
    · have := h2 (m - 1 - i) (by omega)
      rw [List.getElem?_drop, List.getElem?_drop]
      rw [show x.length - m + i = x.length - (m - 1 - i + 1) by omega, show y.length - m + i = y.length - (m - 1 - i + 1) by omega]
      exact this
    · rw [List.getElem?_eq_none (by simp; omega), List.getElem?_eq_none (by simp; omega)]
  have hl : (y.drop (y.length - m)).length = m := by simp; omega
  have hp : (y.take k).length = k := by simp; omega
  calc lc x y = lc (x.take k ++ (sub x k (x.length - m) ++ x.drop (x.length - m))) (y.take k ++ (sub y k (y.length - m) ++ y.drop (y.length - m))) := by rw [← e x hx, ← e y hy]
    _ = _ := by rw [ep, es, lc_pre, lc_suf, hl, hp]; omega

theorem prs_mono {A B : List Int} (h : ∀ (i : Nat) (z : Int), A[i]? = some z → 0 ≤ z → ∃ z', B[i]? = some z' ∧ 0 ≤ z') : prs A ≤ prs B := by
  induction A generalizing B with
  | nil => exact Nat.zero_le _
  | cons a A ih =>
    cases B with
    | nil =>
      by_cases ha : 0 ≤ a
      · obtain ⟨_, h1, _⟩ := h 0 a rfl ha
        simp at h1
      · have := ih (B := []) (fun i z hi hz => by
          obtain ⟨z', h1, _⟩ := h (i + 1) z (by simpa using hi) hz
          simp at h1)
        have e : prs (a :: A) = prs A := by simp [prs, ha]
        rw [e]
        exact this
    | cons b B =>
      have h2 := ih (B := B) (fun i z hi hz => by
        obtain ⟨z', h1, h3⟩ := h (i + 1) z (by simpa using hi) hz
        exact ⟨z', by simpa using h1, h3⟩)
      by_cases ha : 0 ≤ a
      · obtain ⟨z', h1, h3⟩ := h 0 a rfl ha
        have hb : 0 ≤ b := by
          have e : b = z' := by simpa using h1
          rw [e]
          exact h3
        have e1 : prs (a :: A) = prs A + 1 := by simp [prs, ha]
        have e2 : prs (b :: B) = prs B + 1 := by simp [prs, hb]
        omega
      · have e1 : prs (a :: A) = prs A := by simp [prs, ha]
        have e2 : prs B ≤ prs (b :: B) := by
          by_cases hb : 0 ≤ b <;> simp [prs, hb]
        omega
theorem mem_lp {K : List Int} : ∀ {i : Nat} {z : Int} {a c : Int}, K[i]? = some z → z ≠ -1 → (⟨a + i, c + z⟩ : Pr) ∈ lp a c K := by
  induction K with
  | nil => intro i z a c h; simp at h
  | cons k K ih =>
    intro i z a c h hz
    rw [lp, List.mem_append]
    cases i with
    | zero =>
      have e : k = z := by simpa using h
      subst e
      left
      rw [if_neg hz]
      simp
    | succ i =>
      right
      have := ih (i := i) (z := z) (a := a + 1) (c := c) (by simpa using h) hz
      rw [show a + 1 + (i : Int) = a + ((i + 1 : Nat) : Int) by omega] at this
      exact this
theorem mem_bp : ∀ {k b d i : Nat}, i < k → (⟨(b - (i + 1) : Nat), (d - (i + 1) : Nat)⟩ : Pr) ∈ bp b d k := by
  intro k
  induction k with
  | zero => intro b d i h; omega
  | succ k ih =>
    intro b d i h
    rw [bp]
    cases i with
    | zero => exact List.mem_cons_self
    | succ i =>
      refine List.mem_cons_of_mem _ ?_
      have := ih (b := b - 1) (d := d - 1) (i := i) (by omega)
      rw [show b - 1 - (i + 1) = b - (i + 1 + 1) by omega, show d - 1 - (i + 1) = d - (i + 1 + 1) by omega] at this
      exact this
theorem prs_append (A B : List Int) : prs (A ++ B) = prs A + prs B := by simp [prs]
theorem prs_zeros (k : Nat) : prs (List.replicate k 0) = k := by
  simp [prs]
/-- where the bound is great enough no honest script keeps more -/
theorem sKeep_most (B : Int) (x y : List Int) (hB : (x.length : Int) * (y.length : Int) ≤ B) : prs (sKeep B x y) = lc x y := by
  refine Nat.le_antisymm (sKeep_le B x y) ?_
  have hok := sKeep_ok B x y
  have hat := fun {p : Pr} (hp : p ∈ pcs (smid B x y) x y (x.length + 1) 0 x.length 0 y.length) => hok.at hp
  have hkl := (sKeep_kpt B x y).len
  have hk := tf_le x y 0 x.length 0 y.length
  have hks := tf_same x y 0 x.length 0 y.length
  have hm := tb_le x y (0 + tf x y 0 x.length 0 y.length) x.length (0 + tf x y 0 x.length 0 y.length) y.length
  have hms := tb_same x y (0 + tf x y 0 x.length 0 y.length) x.length (0 + tf x y 0 x.length 0 y.length) y.length
  rw [pcs, ends] at hat
  unfold sKeep at hkl ⊢
  rw [pcs, ends] at hkl ⊢
  generalize tf x y 0 x.length 0 y.length = k at *
  simp only [Nat.zero_add] at *
  generalize tb x y k x.length k y.length = m at *
  have hmid := lc_mid x y k m (by omega) (by omega) (fun i hi => by have := hks i hi; simpa using this) hms
  generalize hl : fp 0 0 k ++ (bp x.length y.length m ++ if k < x.length - m ∧ k < y.length - m then smid B x y (pcs (smid B x y) x y x.length) k (x.length - m) k (y.length - m) else []) = l at hat hkl ⊢
  generalize wrk (List.replicate x.length (-1)) l = K at hat hkl ⊢
  have hA : prs (List.replicate k 0 ++ (kp 0 (sub x k (x.length - m)) (sub y k (y.length - m)) ++ List.replicate m 0)) = lc x y := by
    rw [prs_append, prs_append, prs_zeros, prs_zeros, prs_kp 0 _ _ (Int.le_refl _), hmid]
    omega
  rw [← hA]
  have hsl : (sub x k (x.length - m)).length = x.length - m - k := sub_length x _ _ (by omega)
  refine prs_mono fun i z hz h0 => ?_
  by_cases h1 : i < k
  · have hp : (⟨((0 + i : Nat) : Int), ((0 + i : Nat) : Int)⟩ : Pr) ∈ l := by rw [← hl]; exact List.mem_append_left _ (mem_fp.2 ⟨i, h1, rfl⟩)
    have := hat hp
    exact ⟨_, by simpa using this, by simp⟩
  · rw [List.getElem?_append_right (by simp; omega), List.length_replicate] at hz
    by_cases h2 : i < x.length - m
    · rw [List.getElem?_append_left (by rw [kp_length, hsl]; omega)] at hz
      have h3 : k < y.length - m := by
        obtain ⟨_, c, _, h4⟩ := kp_same 0 _ _ (Int.le_refl _) (i - k) z hz h0
        have := (List.getElem?_eq_some_iff.1 h4).1
        rw [sub_length y _ _ (by omega)] at this
        omega
      have hb : (((x.length - m - k : Nat) : Int)) * (((y.length - m - k : Nat) : Int)) ≤ max 0 B := by
        have h5 : (((x.length - m - k : Nat) : Int)) * (((y.length - m - k : Nat) : Int)) ≤ (x.length : Int) * (y.length : Int) := Int.mul_le_mul (by omega) (by omega) (by omega) (by omega)
        omega
      have hp : (⟨(k : Int) + ((i - k : Nat) : Int), (k : Int) + z⟩ : Pr) ∈ l := by
        rw [← hl]
        refine List.mem_append_right _ (List.mem_append_right _ ?_)
        rw [if_pos ⟨by omega, h3⟩, smid, if_pos hb]
        exact mem_lp hz (by omega)
      have := hat hp
      rw [show ((k : Int) + ((i - k : Nat) : Int)).toNat = i by omega] at this
      exact ⟨_, this, by show (0 : Int) ≤ _; dsimp only; omega⟩
    · have hi : i < x.length := by
        have := (List.getElem?_eq_some_iff.1 hz).1
        rw [List.length_append, kp_length, hsl, List.length_replicate] at this
        omega
      have hp : (⟨((x.length - ((x.length - 1 - i) + 1) : Nat) : Int), ((y.length - ((x.length - 1 - i) + 1) : Nat) : Int)⟩ : Pr) ∈ l := by
        rw [← hl]
        exact List.mem_append_right _ (List.mem_append_left _ (mem_bp (by omega)))
      have := hat hp
      rw [show (((x.length - ((x.length - 1 - i) + 1) : Nat) : Int)).toNat = i by omega] at this
      exact ⟨_, this, by show (0 : Int) ≤ _; dsimp only; omega⟩
end Go.Proofs.Yteplejpbgajecaa

/- speedy.Greedy, walked. -/
namespace Go.Proofs.Yteplejpbgajecaa
open Go.RowKit

theorem gdn_found {c : Int} {y : List Int} {nx k : Nat} {far : Int} (h1 : nx ≤ k) (h2 : (k : Int) - (nx : Int) < far) (h3 : y[k]? = some c) (h4 : ∀ j, nx ≤ j → j < k → y[j]? ≠ some c) : gdn c y nx far = some k := by
  cases h : gdn c y nx far with
  | none => exact absurd h3 (gdn_none h k h1 (by omega))
  | some j =>
    obtain ⟨q1, q2, q3, q4, q5⟩ := gdn_some h
    rcases Nat.lt_trichotomy j k with e | e | e
    · exact absurd q4 (h4 j q1 e)
    · rw [e]
    · exact absurd h3 (q5 k h1 e)
theorem gdn_lost {c : Int} {y : List Int} {nx k : Nat} {far : Int} (h2 : y.length ≤ k ∨ far ≤ (k : Int) - (nx : Int)) (h4 : ∀ j, nx ≤ j → j < k → y[j]? ≠ some c) : gdn c y nx far = none := by
  cases h : gdn c y nx far with
  | none => rfl
  | some j =>
    obtain ⟨q1, q2, q3, q4, q5⟩ := gdn_some h
    exact absurd q4 (h4 j q1 (by omega))
/-- what is written down of what Greedy keeps -/
def Gw (y : List Int) (far : Int) (G : List Int) (n : Nat) (x : List Int) (i nx : Nat) (Z : List Int) : Prop := Z.length = n ∧ Z.take i ++ gdy y far nx x = G
theorem Gw.hit {y : List Int} {far : Int} {G : List Int} {n i nx j : Nat} {c : Int} {x Z : List Int} (h : Gw y far G n (c :: x) i nx Z) (hi : i < n) (hj : gdn c y nx far = some j) : Gw y far G n x (i + 1) (j + 1) (Z.set i (j : Int)) := by
  refine ⟨by rw [List.length_set]; exact h.1, ?_⟩
  rw [← h.2, gdy, hj, List.take_add_one, List.getElem?_set_self (by rw [h.1]; exact hi)]
  rw [List.take_set_of_le (Nat.le_refl _)]
  simp
theorem Gw.miss {y : List Int} {far : Int} {G : List Int} {n i nx : Nat} {c : Int} {x Z : List Int} (h : Gw y far G n (c :: x) i nx Z) (hi : i < n) (hj : gdn c y nx far = none) : Gw y far G n x (i + 1) nx (Z.set i (-1)) := by
  refine ⟨by rw [List.length_set]; exact h.1, ?_⟩
  rw [← h.2, gdy, hj, List.take_add_one, List.getElem?_set_self (by rw [h.1]; exact hi)]
  rw [List.take_set_of_le (Nat.le_refl _)]
  simp

set_option maxRecDepth 10000 in
set_option maxHeartbeats 4000000 in
theorem Greedy_f (x y : List Int) (far : Int) (vx vy : Value) (w : World) (hx : HI w vx x) (hy : HI w vy y) (hxl : x.length ≤ 1048576) (hyl : y.length ≤ 1048576) (G : List Int) (hG : Hid (gdy y far 0 x = G)) :
    Calls Try.prog 13 #[vx, vy, .int .i64 far] w fun e w' => ∃ zo zc, e = .returned (.slice zo x.length zc) ∧ w'.ownsRow w.heap.size 3 1 (.slice zo x.length zc) x.length (icells G) ∧ Below w.heap.size w w' := by
  obtain ⟨xo, xc, rfl⟩ := Holds.form hx
  obtain ⟨yo, yc, rfl⟩ := Holds.form hy
  have hmk := run_makeI x.length (by omega)
  have hrow := World.ownsRow_lit (base := w.heap.size) (e := 3) (size := 1) w (madeCells #[Value.int IntKind.i64 0] x.length) x.length (Nat.le_refl _) (by unfold maxLen; omega) (by rw [size_madeCells]; omega)
  have hB0 : Below w.heap.size w (w.alloc (Obj.cells (madeCells #[Value.int IntKind.i64 0] x.length) 3)) := (Below.refl _ w).alloc (Nat.le_refl _) _
  rw [madeI] at hmk hrow hB0
  have hrow' : (w.alloc (Obj.cells (List.replicate x.length (Value.int .i64 0)).toArray 3)).ownsRow w.heap.size 3 1 (.slice (some ⟨w.heap.size, 0, none⟩) x.length x.length) x.length (icells (List.replicate x.length 0)) := by
    simpa [icells] using hrow
  have HW0 : Hid (Gw y far G x.length (x.drop 0) 0 0 (List.replicate x.length 0)) := (by
    refine ⟨by simp, ?_⟩
    rw [List.take_zero, List.drop_zero, List.nil_append]
    exact hG.out)
  clear hrow hG
  go_enter Try.func13, Try.ntmps13
  go_wp2
  go_step3
  go_wp2
  go_step3
  go_wp2
  go_loopw [8, 17] (fun fv iv wr => ∃ (i nx : Nat) (Z : List Int), i ≤ x.length ∧ nx ≤ y.length ∧ fv = .int .i64 nx ∧ iv = .int .i64 i ∧ Below w.heap.size w wr ∧ wr.ownsRow w.heap.size 3 1 (.slice (some ⟨w.heap.size, 0, none⟩) x.length x.length) x.length (icells Z) ∧ Hid (Gw y far G x.length (x.drop i) i nx Z)) (fun _ iv _ => x.length - (intOf iv).toNat)
  case atStart => exact ⟨0, 0, _, Nat.zero_le _, Nat.zero_le _, rfl, rfl, hB0, hrow', HW0⟩
  case round =>
    clear hB0 hrow' HW0 hmk
    obtain ⟨i, nx, Z, hi, hnx, rfl, rfl, hB, hO, HW⟩ := hrel
    by_cases hlt : i < x.length
    · obtain ⟨xb, xf, rfl, _, hqx⟩ := HI.at (HI.keep hx hB (Nat.le_refl _)) (by omega)
      have x0 := hqx i hlt
      obtain ⟨c, hc⟩ : ∃ c, x[i] = c := ⟨_, rfl⟩
      rw [hc] at x0
      have HW1 : Hid (Gw y far G x.length (c :: x.drop (i + 1)) i nx Z) := (by
        have := HW.out
        rw [List.drop_eq_getElem_cons hlt, hc] at this
        exact this)
      clear hqx hc HW
      have i1 : 0 ≤ (i : Int) := by omega
      have i2 : (i : Int) < (x.length : Int) := by omega
      go_wp2
      go_loopw [8, 11] (fun fv av wi => ∃ (k : Nat), nx ≤ k ∧ k ≤ y.length ∧ fv = .int .i64 nx ∧ av = .int .i64 k ∧ wi = wr ∧ Hid (∀ j, nx ≤ j → j < k → y[j]? ≠ some c)) (fun _ av _ => y.length - (intOf av).toNat)
      case atStart => exact ⟨nx, Nat.le_refl _, hnx, rfl, rfl, rfl, fun j h1 h2 => by omega⟩
      case round =>
        clear x0
        obtain ⟨k, hk1, hk2, rfl, rfl, rfl, HF⟩ := hrel
        have y1 := hO.frozenAt i
        have hZl := HW1.out.1
        have z0 := hO.cellAt i (by omega)
        rw [List.getElem?_eq_getElem (by rw [icells_length]; omega)] at z0
        obtain ⟨z1, hz1⟩ : ∃ z, (icells Z)[i]'(by rw [icells_length]; omega) = z := ⟨_, rfl⟩
        rw [hz1] at z0
        clear hz1 hZl
        by_cases hky : k < y.length
        · by_cases hkf : (k : Int) - (nx : Int) < far
          · obtain ⟨yb, yf, rfl, _, hqy⟩ := HI.at (HI.keep hy hB (Nat.le_refl _)) (by omega)
            have y0 := hqy k hky
            obtain ⟨d, hd⟩ : ∃ d, y[k] = d := ⟨_, rfl⟩
            rw [hd] at y0
            have HD : Hid (y[k]? = some d) := (by show _ = _; rw [List.getElem?_eq_getElem hky, hd])
            have k1 : (k : Int) < (y.length : Int) := by omega
            have k2 : 0 ≤ (k : Int) := by omega
            have n1 : IntKind.i64.wrap ((k : Int) - (nx : Int)) = (k : Int) - (nx : Int) := by rw [IntKind.wrap_i64]; omega
            clear hqy hd
            by_cases hcd : d = c
            · subst hcd
              obtain ⟨p1, g1⟩ := hO.stored i (.int .i64 (k : Int))
              rw [show (icells Z).set i (.int .i64 (k : Int)) = icells (Z.set i (k : Int)) by simp [icells, List.map_set]] at p1
              have hB1 := hB.grown g1 hB.size (fun j hj => by have := Option.some.inj hj; omega)
              have HW2 : Hid (Gw y far G x.length (x.drop (i + 1)) (i + 1) (k + 1) (Z.set i (k : Int))) := HW1.out.hit hlt (gdn_found hk1 hkf HD.out HF.out)
              clear g1
              go_wp2
              go_roundw
              case rel => exact ⟨i + 1, k + 1, _, by omega, by omega, by go_num, by go_num, hB1, p1, HW2⟩
              case measure => simp [intOf]; omega
            · have e1 : (d == c) = false := by simpa using hcd
              have HF2 : Hid (∀ j, nx ≤ j → j < k + 1 → y[j]? ≠ some c) := (by
                intro j h1 h2 h3
                by_cases e : j = k
                · subst e
                  rw [HD.out] at h3
                  exact hcd (Option.some.inj h3)
                · exact HF.out j h1 (by omega) h3)
              go_wp2
              go_roundw
              case rel => exact ⟨k + 1, by omega, by omega, rfl, by go_num, trivial, HF2⟩
              case measure => simp [intOf]; omega
          · have k1 : (k : Int) < (y.length : Int) := by omega
            have n1 : IntKind.i64.wrap ((k : Int) - (nx : Int)) = (k : Int) - (nx : Int) := by rw [IntKind.wrap_i64]; omega
            have hkf' : far ≤ (k : Int) - (nx : Int) := by omega
            obtain ⟨p1, g1⟩ := hO.stored i (.int .i64 (-1))
            rw [show (icells Z).set i (.int .i64 (-1)) = icells (Z.set i (-1)) by simp [icells, List.map_set]] at p1
            have hB1 := hB.grown g1 hB.size (fun j hj => by have := Option.some.inj hj; omega)
            have HW2 : Hid (Gw y far G x.length (x.drop (i + 1)) (i + 1) nx (Z.set i (-1))) := HW1.out.miss hlt (gdn_lost (.inr hkf') HF.out)
            clear g1
            go_wp2
            go_roundw
            case rel => exact ⟨i + 1, nx, _, by omega, hnx, by go_num, by go_num, hB1, p1, HW2⟩
            case measure => simp [intOf]; omega
        · obtain rfl : k = y.length := by omega
          obtain ⟨p1, g1⟩ := hO.stored i (.int .i64 (-1))
          rw [show (icells Z).set i (.int .i64 (-1)) = icells (Z.set i (-1)) by simp [icells, List.map_set]] at p1
          have hB1 := hB.grown g1 hB.size (fun j hj => by have := Option.some.inj hj; omega)
          have HW2 : Hid (Gw y far G x.length (x.drop (i + 1)) (i + 1) nx (Z.set i (-1))) := HW1.out.miss hlt (gdn_lost (.inl (Nat.le_refl _)) HF.out)
          clear g1
          go_wp2
          go_roundw
          case rel => exact ⟨i + 1, nx, _, by omega, hnx, by go_num, by go_num, hB1, p1, HW2⟩
          case measure => simp [intOf]; omega
    · obtain rfl : i = x.length := by omega
      have e : Z = G := by
        have := HW.out
        rw [← this.2, List.drop_of_length_le (Nat.le_refl _), gdy, List.append_nil, List.take_of_length_le (by rw [this.1]; exact Nat.le_refl _)]
      subst e
      clear HW
      go_wp2
      (try rw [Exit.noGoto_ret])
      go_ret
      exact ⟨_, _, rfl, hO, hB⟩
end Go.Proofs.Yteplejpbgajecaa

/- Worlds behind a draw: new rows and what is carried. -/
namespace Go.Proofs.Yteplejpbgajecaa
open Go.RowKit
attribute [local simp] low_drew

theorem new_holds_d (W : World) (cs : Array Value) (e : TypeId) (k c : Nat) (hkc : k ≤ c) : Holds (W.alloc (.cells cs e)).drew (.slice (some ⟨W.heap.size, 0, none⟩) k c) k cs.toList := by
  have := new_holds W cs e k c hkc
  exact this
theorem st_d {W : World} {e : TypeId} {s : Nat} {v : Value} {k : Nat} {xs : List Value} {w : World} (o : Obj) (h : St W e s v k xs w) : St W e s v k xs (w.alloc o).drew := (st_drew _ _ _ _ _ _ _).2 (st_alloc o h)
theorem alloc_second (w : World) (o o2 : Obj) : ((w.alloc o).alloc o2).heap[w.heap.size + 1]? = some o2 := by
  have h := _root_.Go.heap_alloc_new (w.alloc o) o2
  rw [World.size_alloc] at h
  exact h
theorem owns_d {W : World} {base : Nat} {e : TypeId} {s : Nat} {v : Value} {n : Nat} {xs : List Value} (h : W.ownsRow base e s v n xs) (o : Obj) : (W.alloc o).drew.ownsRow base e s v n xs := by
  have := h.alloc o
  exact this
end Go.Proofs.Yteplejpbgajecaa

/- Which rows are the same, told by the script; SameInts of any two rows, walked. -/
namespace Go.Proofs.Yteplejpbgajecaa
open Go.RowKit

theorem kp_self (b : Int) (x : List Int) : kp b x x = (List.range x.length).map fun (j : Nat) => b + (j : Int) := by
  induction x generalizing b with
  | nil => rw [kp_nil]; rfl
  | cons a x ih =>
    rw [kp_cons, if_pos rfl, ih, List.length_cons, List.range_succ_eq_map, List.map_cons, List.map_map]
    simp
    intro j _
    omega
theorem mk_nil (x y : List Int) (hx : x.length ≤ 4096) (hy : y.length ≤ 4096) : mkL (kp 0 x y) y.length = [] ↔ x = y := by
  constructor
  · intro h
    have hv : Vk 0 (y.length : Int) (kp 0 x y) := by
      have := kp_vk 0 x y (Int.le_refl _)
      rwa [Int.zero_add] at this
    have hl := kp_length 0 x y
    obtain ⟨⟨_, _, hS⟩, hU⟩ := mk_script hv (by omega) (by omega) (by rw [hl]; omega)
    rw [h] at hS hU
    rw [U_nil] at hU
    have hnm : x.length = y.length := by
      have h1 := hS.2.2
      rw [hl] at h1
      omega
    apply List.ext_getElem hnm
    intro i h1 h2
    have hm : (⟨(i : Int), (i : Int), 1⟩ : Rn) ∈ keptR 0 (kp 0 x y) := by
      rw [← hU, mem_un]
      rw [hl]
      refine ⟨rfl, ?_, ?_, ?_⟩ <;> dsimp only <;> omega
    rw [mem_keptR] at hm
    obtain ⟨_, _, h3, _⟩ := hm
    dsimp only at h3
    rw [show ((i : Int) - 0).toNat = i by omega] at h3
    obtain ⟨_, c, h4, h5⟩ := kp_same 0 x y (Int.le_refl _) i i h3 (by omega)
    rw [show ((i : Int) - 0).toNat = i by omega] at h5
    rw [List.getElem?_eq_getElem h1] at h4
    rw [List.getElem?_eq_getElem h2] at h5
    rw [Option.some.inj h4, Option.some.inj h5]
  · rintro rfl
    unfold mkL
    rw [kp_self, keptR_run 0 0 (Int.le_refl _), betw_un]
    simp [betw]
theorem gr_step (x y : List Int) (j i : Nat) (hj : j < x.length) (hi : i < y.length) : gr (x.drop j) (y.drop i) = if x[j] = y[i] then gr (x.drop (j + 1)) (y.drop (i + 1)) + 1 else gr (x.drop j) (y.drop (i + 1)) := by
  rw [List.drop_eq_getElem_cons hj, List.drop_eq_getElem_cons hi, gr]
theorem gr_end (x y : List Int) (j i : Nat) (h : x.length ≤ j ∨ y.length ≤ i) : gr (x.drop j) (y.drop i) = 0 := by
  rcases h with h | h
  · rw [List.drop_of_length_le h]; cases y.drop i <;> rfl
  · rw [List.drop_of_length_le h]; cases x.drop j <;> rfl

set_option maxHeartbeats 1000000 in
theorem SameI_dec (va vb : Value) (a b : List Int) (w : World) (ha : HI w va a) (hb : HI w vb b) (ha' : a.length ≤ 1048576) (r : Bool) (hr : Hid (r = decide (a = b))) :
    Calls Try.prog 12 #[va, vb] w fun e w' => e = .returned (.bool r) ∧ Below w.heap.size w w' := by
  obtain ⟨ao, ca, rfl⟩ := Holds.form ha
  obtain ⟨bo, cb, rfl⟩ := Holds.form hb
  by_cases hl : a.length = b.length
  · have HB : Hid (HI w (.slice bo b.length cb) b) := hb
    rw [← hl] at hb
    have HL : Hid (a.length = b.length) := hl
    go_enter Try.func12, Try.ntmps12
    rw [← hl]
    clear hl
    go_wp2
    go_loopw [5] (fun i wr => ∃ k m : Nat, k ≤ a.length ∧ i = .int .i64 k ∧ wr = w.drewN m ∧ Hid (a.take k = b.take k)) (fun i _ => a.length - (intOf i).toNat)
    case atStart => exact ⟨0, 0, Nat.zero_le _, rfl, rfl, (by show _ = _; simp)⟩
    case round =>
      obtain ⟨k, m, hk, rfl, rfl, hT⟩ := hrel
      by_cases hlt : k < a.length
      · have hlt' : k < b.length := by have := HL.out; omega
        obtain ⟨b1, o1, rfl, _, hc1⟩ := HI.at ha (by omega)
        obtain ⟨b2, o2, rfl, _, hc2⟩ := HI.at (n := a.length) hb (by omega)
        have d1 := hc1 k hlt
        have d2 := hc2 k hlt'
        have HT : Hid (a.take (k + 1) = a.take k ++ [a[k]] ∧ b.take (k + 1) = b.take k ++ [b[k]]) := ⟨List.take_succ_eq_append_getElem hlt, List.take_succ_eq_append_getElem hlt'⟩
        have HNE : Hid (a[k] ≠ b[k] → a ≠ b) := (by
          show _ → _
          intro h e
          subst e
          exact h rfl)
        obtain ⟨xk, hxk⟩ : ∃ z, a[k] = z := ⟨_, rfl⟩
        obtain ⟨yk, hyk⟩ : ∃ z, b[k] = z := ⟨_, rfl⟩
        rw [hxk] at d1 HT HNE
        rw [hyk] at d2 HT HNE
        clear hc1 hc2 hxk hyk
        have i1 : 0 ≤ (k : Int) := by omega
        have i2 : (k : Int) < (a.length : Int) := by omega
        by_cases hxy : xk = yk
        · have HT2 : Hid (a.take (k + 1) = b.take (k + 1)) := (by show _ = _; rw [HT.out.1, HT.out.2, hT.out, hxy])
          go_wp2_with fail
          go_quiet (fail)
          go_wp2
          go_roundw
          case rel => exact ⟨k + 1, _, by omega, by go_num, rfl, HT2⟩
          case measure => simp [intOf]; omega
        · have hxy' : decide (xk = yk) = false := decide_eq_false hxy
          obtain rfl : r = false := by rw [hr.out]; exact decide_eq_false (HNE.out hxy)
          go_wp2_with fail
          go_quiet (fail)
          go_wp2
          go_ret
          exact ⟨rfl, Below.dN (Below.dN (Below.refl _ w) _) _⟩
      · obtain rfl : r = true := by
          rw [hr.out]
          apply decide_eq_true
          have h := hT.out
          rw [List.take_of_length_le (by omega), List.take_of_length_le (by have := HL.out; omega)] at h
          exact h
        go_wp2
        go_ret
        exact ⟨rfl, Below.dN (Below.refl _ w) _⟩
  · obtain rfl : r = false := by
      rw [hr.out]
      exact decide_eq_false (fun e => hl (by rw [e]))
    have hl' : ¬ (a.length : Int) = (b.length : Int) := by omega
    have hl2 : decide ((a.length : Int) = (b.length : Int)) = false := decide_eq_false hl'
    go_enter Try.func12, Try.ntmps12
    go_wp2
    go_ret
    exact ⟨rfl, Below.refl _ _⟩
end Go.Proofs.Yteplejpbgajecaa

/- What an argument of type []int, []api.Change holds, and how much of it there is by the statement's own count. -/
namespace Go.Proofs.Yteplejpbgajecaa
open Go.ChangeShapes Go.WideShapes Go.ChangeAt Go.RowKit

theorem own : ownKnob Try.prog.godebug = none := by kernel_rfl
theorem laidOut : laidOutB Try.prog = true := by kernel_rfl
theorem cellsInt : Try.prog.cellsOf 3 = 1 := by kernel_rfl
theorem cellsCh : Try.prog.cellsOf 49 = 4 := by kernel_rfl

/-- numbers that an int holds -/
def w64 (z : Int) : Prop := -9223372036854775808 ≤ z ∧ z ≤ 9223372036854775807
theorem w64_of {z : Int} (h : (Lit.int .i64 z).wf = true) : w64 z := bounds_i64 h
/-- a change of numbers that an int holds -/
def wCh (c : Ch) : Prop := w64 c.A ∧ w64 c.AN ∧ w64 c.B ∧ w64 c.BN

theorem lits_len {H : Type} (l : List Int) : l.length ≤ Rows.uptoBulkAll (lits (H := H) .i64 l) := by
  induction l with
  | nil => simp [lits, Rows.uptoBulkAll]
  | cons s t ih =>
    have e : lits (H := H) .i64 (s :: t) = .lit (.int .i64 s) :: lits .i64 t := rfl
    rw [e]
    simp only [Rows.uptoBulkAll, Rows.uptoBulk, List.length_cons]
    omega

/-- the numbers that an argument holds -/
theorem open_nums {H : Type} {enc : TypeId × Value → H} {W : World} {fuel : Nat} {ao : Option Addr} {len cap : Nat} {d : DataW H} {p : List MemPlace}
    (h : DataW.trod enc Try.prog W 0 (fun _ => true) true fuel 22 [.slice ao len cap] = some (d, p)) :
    ∃ zs : List Int, HI W (.slice ao len cap) zs ∧ zs.length ≤ Rows.uptoBulk d ∧ ∀ z ∈ zs, w64 z := by
  rcases open_ints Try.underlying22 Try.underlying3 cellsInt h with ⟨hcs, hx⟩ | ⟨a, l, c, zs, hcs, _, hl, hm, hz, hx, hcell, hwf⟩
  · simp at hcs
    obtain ⟨rfl, rfl, rfl⟩ := hcs
    exact ⟨[], .inl ⟨rfl, rfl, rfl⟩, by simp, by simp⟩
  · simp at hcs
    obtain ⟨rfl, rfl, rfl⟩ := hcs
    simp at hz
    simp only [Prod.mk.injEq] at hx
    obtain ⟨rfl, _⟩ := hx
    have hlen : (zs.take len).length = len := by simp; omega
    refine ⟨zs.take len, .inr ⟨a, cap, by rw [hlen], by omega, fun j u hj => ?_⟩, ?_, fun z hz => w64_of (hwf z (List.mem_of_mem_take hz))⟩
    · have hj' : j < len := by
        have := (List.getElem?_eq_some_iff.1 hj).1
        rw [icells_length, hlen] at this
        exact this
      rw [hcell j (by omega)]
      have hjs : j < zs.length := by omega
      simp [icells, hj', hjs] at hj
      simp [List.getD, hjs, ← hj]
    · have := lits_len (H := H) (zs.take len)
      rw [Rows.uptoBulk]
      omega

theorem bulk_range {H : Type} (D : Nat → DataW H) (n : Nat) (h : ∀ i, i < n → 1 ≤ Rows.uptoBulk (D i)) : n ≤ Rows.uptoBulkAll ((List.range n).map D) := by
  have hall : ∀ l : List (DataW H), (∀ d ∈ l, 1 ≤ Rows.uptoBulk d) → l.length ≤ Rows.uptoBulkAll l := by
    intro l
    induction l with
    | nil => simp
    | cons d t ih =>
      intro hd
      have h1 := hd d (List.mem_cons_self ..)
      have h2 := ih fun x hx => hd x (List.mem_cons_of_mem _ hx)
      rw [Rows.uptoBulkAll]
      simp only [List.length_cons]
      omega
  have := hall ((List.range n).map D) (by
    intro d hd
    simp only [List.mem_map, List.mem_range] at hd
    obtain ⟨i, hi, rfl⟩ := hd
    exact h i hi)
  simpa using this

set_option maxRecDepth 10000 in
/-- the changes that an argument holds -/
theorem open_chs {H : Type} {enc : TypeId × Value → H} {W : World} {fuel : Nat} {ao : Option Addr} {len cap : Nat} {d : DataW H} {p : List MemPlace}
    (h : DataW.trod enc Try.prog W 0 (fun _ => true) true fuel 23 [.slice ao len cap] = some (d, p)) :
    ∃ l : List Ch, HCh W (.slice ao len cap) l ∧ l.length ≤ Rows.uptoBulk d ∧ ∀ c ∈ l, wCh c := by
  rcases Go.Deep.open_slice Try.underlying23 h with ⟨hcs, hx⟩ | ⟨a, l, c, m, n, D, Pl, hcs, _, hl, hm, hmm, hx, hel⟩
  · simp at hcs
    obtain ⟨rfl, rfl, rfl⟩ := hcs
    exact ⟨[], .inl ⟨rfl, rfl, rfl⟩, by simp, by simp⟩
  · simp at hcs
    obtain ⟨rfl, rfl, rfl⟩ := hcs
    simp only [Prod.mk.injEq] at hx
    obtain ⟨rfl, _⟩ := hx
    have hlm : len ≤ m := by rw [hmm]; split <;> omega
    have each : ∀ i, i < len → ∃ c : Ch, wCh c ∧ W.cell? (a.add (i * 4)) = some (.int .i64 c.A) ∧ W.cell? (a.add (i * 4 + 1)) = some (.int .i64 c.AN) ∧ W.cell? (a.add (i * 4 + 2)) = some (.int .i64 c.B) ∧ W.cell? (a.add (i * 4 + 3)) = some (.int .i64 c.BN) ∧ 1 ≤ Rows.uptoBulk (D i) := by
      intro i hi
      obtain ⟨cs', h1, h2⟩ := hel i (by omega)
      rw [cellsCh] at h1
      obtain ⟨_, hlen, hcell⟩ := World.cells?_some h1
      obtain ⟨xs, k, hk, hxy, _, hxl, hf⟩ := DataW.trod_struct Try.underlying49 h2
      match xs, hxl, cs', hlen with
      | [y0, y1, y2, y3], _, [v0, v1, v2, v3], _ =>
        have g0 := hf 0 _ rfl
        have g1 := hf 1 _ rfl
        have g2 := hf 2 _ rfl
        have g3 := hf 3 _ rfl
        simp [cellsInt] at g0 g1 g2 g3
        obtain ⟨z0, e0, _, w0⟩ := DataW.trod_int Try.underlying3 g0
        obtain ⟨z1, e1, _, w1⟩ := DataW.trod_int Try.underlying3 g1
        obtain ⟨z2, e2, _, w2⟩ := DataW.trod_int Try.underlying3 g2
        obtain ⟨z3, e3, _, w3⟩ := DataW.trod_int Try.underlying3 g3
        cases e0
        cases e1
        cases e2
        cases e3
        have c0 := hcell 0 (by omega)
        have c1 := hcell 1 (by omega)
        have c2 := hcell 2 (by omega)
        have c3 := hcell 3 (by omega)
        rw [Go.Deep.add_add] at c0 c1 c2 c3
        simp only [Prod.mk.injEq] at hxy
        refine ⟨⟨z0, z1, z2, z3⟩, ⟨w64_of w0, w64_of w1, w64_of w2, w64_of w3⟩, by simpa using c0, by simpa using c1, by simpa using c2, by simpa using c3, ?_⟩
        rw [hxy.1, Rows.uptoBulk]
        omega
    have : Inhabited Ch := ⟨⟨0, 0, 0, 0⟩⟩
    obtain ⟨f, hf⟩ := Go.Deep.choose_lt each
    have hlen : ((List.range len).map f).length = len := by simp
    refine ⟨(List.range len).map f, .inr ⟨a, cap, by rw [hlen], by rw [hlen]; exact hl, fun j u hj => ?_⟩, ?_, ?_⟩
    · have hj' : j < len * 4 := by
        have := (List.getElem?_eq_some_iff.1 hj).1
        rw [chcells_length, hlen] at this
        exact this
      obtain ⟨h0, h1, h2, h3⟩ := chcells_at ((List.range len).map f) (j / 4) (by rw [hlen]; omega)
      obtain ⟨_, g0, g1, g2, g3, _⟩ := hf (j / 4) (by omega)
      simp only [List.getElem_map, List.getElem_range] at h0 h1 h2 h3
      rcases (by omega : j = 4 * (j / 4) ∨ j = 4 * (j / 4) + 1 ∨ j = 4 * (j / 4) + 2 ∨ j = 4 * (j / 4) + 3) with e | e | e | e
      · rw [e, h0] at hj
        rw [e, Nat.mul_comm, g0, hj]
      · rw [e, h1] at hj
        rw [e, Nat.mul_comm, g1, hj]
      · rw [e, h2] at hj
        rw [e, Nat.mul_comm, g2, hj]
      · rw [e, h3] at hj
        rw [e, Nat.mul_comm, g3, hj]
    · rw [hlen, Rows.uptoBulk]
      have := bulk_range D len fun i hi => (hf i hi).2.2.2.2.2
      omega
    · intro c hc
      simp only [List.mem_map, List.mem_range] at hc
      obtain ⟨i, hi, rfl⟩ := hc
      exact (hf i hi).1
end Go.Proofs.Yteplejpbgajecaa
