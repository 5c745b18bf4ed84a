/-
  A region that draws its order, in a round: seven operations that read and a call, in whatever order, then the rest as the text has it.
-/
import Derived.Test.YtppdcjjkkckokaaEdOwn
namespace Go.Proofs.Ytppdcjjkkckokaa
namespace R8
open Go.RowKit Go.Shelf

abbrev B8 := Fin 8 → Bool
def lst (b : B8) : Array Bool := #[b 0, b 1, b 2, b 3, b 4, b 5, b 6, b 7, false, false]
def upd (b : B8) (i : Fin 8) : B8 := fun j => if j = i then true else b j
def one (c : Bool) : Nat := if c then 1 else 0
def cnt (b : B8) : Nat := one (b 0) + one (b 1) + one (b 2) + one (b 3) + one (b 4) + one (b 5) + one (b 6) + one (b 7)
theorem lst_upd (b : B8) (i : Fin 8) : (lst b).setIfInBounds i.1 true = lst (upd b i) := by
  rcases i with ⟨i, hi⟩
  rcases (by omega : i = 0 ∨ i = 1 ∨ i = 2 ∨ i = 3 ∨ i = 4 ∨ i = 5 ∨ i = 6 ∨ i = 7) with rfl | rfl | rfl | rfl | rfl | rfl | rfl | rfl <;> simp [lst, upd]
theorem cnt_upd (b : B8) (i : Fin 8) (h : b i = false) : cnt (upd b i) = cnt b + 1 := by
  rcases i with ⟨i, hi⟩
  rcases (by omega : i = 0 ∨ i = 1 ∨ i = 2 ∨ i = 3 ∨ i = 4 ∨ i = 5 ∨ i = 6 ∨ i = 7) with rfl | rfl | rfl | rfl | rfl | rfl | rfl | rfl <;> (simp only [Fin.isValue, Fin.mk_zero, Fin.mk_one, Fin.reduceFinMk] at h; simp [cnt, upd, one, h]; try omega)
theorem one_le (c : Bool) : one c ≤ 1 := by cases c <;> simp [one]
theorem cnt_le (b : B8) : cnt b ≤ 8 := by
  have := fun i => one_le (b i)
  have h0 := this 0; have h1 := this 1; have h2 := this 2; have h3 := this 3; have h4 := this 4; have h5 := this 5; have h6 := this 6; have h7 := this 7
  unfold cnt
  omega
/-- which must lie ahead of one -/
def deps : Fin 8 → List (Fin 8)
  | 4 => [2, 3]
  | 5 => [4]
  | 7 => [5, 6]
  | _ => []
def closedB (b : B8) : Bool := (List.finRange 8).all fun i => !(b i) || (deps i).all b
theorem closed_upd (b : B8) (i : Fin 8) (h : closedB b = true) (hd : ∀ j ∈ deps i, b j = true) : closedB (upd b i) = true := by
  simp only [closedB, List.all_eq_true, List.mem_finRange, Bool.or_eq_true, Bool.not_eq_true', forall_const] at h ⊢
  intro k
  have hup : ∀ j, b j = true → upd b i j = true := fun j hj => by unfold upd; split <;> simp_all
  by_cases hk : k = i
  · exact .inr fun j hj => hup j (hd j (hk ▸ hj))
  · rcases h k with h1 | h1
    · left
      unfold upd
      rw [if_neg hk]
      exact h1
    · exact .inr fun j hj => hup j (h1 j hj)
theorem closed_at (b : B8) (h : closedB b = true) (i : Fin 8) (hi : b i = true) : ∀ j ∈ deps i, b j = true := by
  simp only [closedB, List.all_eq_true, List.mem_finRange, Bool.or_eq_true, Bool.not_eq_true', forall_const] at h
  rcases h i with h1 | h1
  · rw [hi] at h1; cases h1
  · exact h1
/-- behind the call only the first two may still come -/
theorem closed_call (b : B8) (h : closedB b = true) (h7 : b 7 = true) : b 2 = true ∧ b 3 = true ∧ b 4 = true ∧ b 5 = true ∧ b 6 = true := by
  have h5 := closed_at b h 7 h7 5 (by simp [deps])
  have h6 := closed_at b h 7 h7 6 (by simp [deps])
  have h4 := closed_at b h 5 h5 4 (by simp [deps])
  exact ⟨closed_at b h 4 h4 2 (by simp [deps]), closed_at b h 4 h4 3 (by simp [deps]), h4, h5, h6⟩
def chkReady (ops : Array Oper) (b : B8) : Bool :=
  !(closedB b) || !(Region.ready .any ops (lst b)).isEmpty && (Region.ready .any ops (lst b)).all fun i =>
    if h : i < 8 then !(b ⟨i, h⟩) && (deps ⟨i, h⟩).all b else i == 8 && (List.finRange 8).all b

theorem any8 {F : Fence} {n : Nat} {P : Program} {ops : Array Oper} {Q : Exit → Act → World → Prop} {w : World} (act : B8 → Value → Act) (Post : Value → World → Prop)
    (hr : ∀ b, chkReady ops b = true)
    (hstep : ∀ (b : B8) (i : Fin 8), i ≠ 7 → b i = false → (∀ j ∈ deps i, b j = true) → closedB b = true → ∀ v u, ((b 7 = false ∧ u = w) ∨ (b 7 = true ∧ Post v u)) → ∀ K : Act → World → Prop, K (act (upd b i) v) u → wpOpIn F n P ops Q i.1 K (act b v) u)
    (hcall : ∀ (b : B8) v, b 7 = false → b 5 = true → b 6 = true → ∀ K : Act → World → Prop, (∀ v' u, Post v' u → K (act (upd b 7) v') u) → wpOpIn F n P ops Q 7 K (act b v) w)
    (hfin : ∀ v u, Post v u → wpOpIn F n P ops Q 8 (wpAnyIn F n P .any ops Q 1 #[true, true, true, true, true, true, true, true, true, false]) (act (fun _ => true) v) u) (v0 : Value) :
    wpAnyIn F n P .any ops Q 10 (lst fun _ => false) (act (fun _ => false) v0) w := by
  have main : ∀ (fuel : Nat) (b : B8) (v : Value) (u : World), closedB b = true → fuel + cnt b = 10 → ((b 7 = false ∧ u = w) ∨ (b 7 = true ∧ Post v u)) → wpAnyIn F n P .any ops Q fuel (lst b) (act b v) u := by
    intro fuel
    induction fuel with
    | zero => intro b _ _ _ h; have := cnt_le b; omega
    | succ f ih =>
      intro b v u hcl h hst
      have hb := hr b
      unfold chkReady at hb
      rw [hcl] at hb
      simp only [Bool.not_true, Bool.false_or] at hb
      simp only [Bool.and_eq_true, List.all_eq_true] at hb
      refine ⟨fun h0 => ?_, fun i hi => ?_⟩
      · rw [h0] at hb
        simp at hb
      · have h1 := hb.2 i hi
        split at h1
        · rename_i hlt
          simp only [Bool.and_eq_true, Bool.not_eq_true', List.all_eq_true] at h1
          have e := lst_upd b ⟨i, hlt⟩
          dsimp only at e
          by_cases h7 : i = 7
          · subst h7
            rcases hst with ⟨q1, rfl⟩ | ⟨q1, _⟩
            · refine hcall b v q1 (h1.2 5 (by simp [deps])) (h1.2 6 (by simp [deps])) _ (fun v' u' hp => ?_)
              rw [e]
              exact ih _ v' u' (closed_upd b 7 hcl h1.2) (by have := cnt_upd b ⟨7, hlt⟩ q1; omega) (.inr ⟨by simp [upd], hp⟩)
            · have := h1.1
              rw [show (⟨7, hlt⟩ : Fin 8) = 7 from rfl, q1] at this
              cases this
          · refine hstep b ⟨i, hlt⟩ (fun q => h7 (congrArg Fin.val q)) h1.1 h1.2 hcl v u hst _ ?_
            rw [e]
            refine ih _ v u (closed_upd b ⟨i, hlt⟩ hcl h1.2) (by rw [cnt_upd b ⟨i, hlt⟩ h1.1]; omega) ?_
            have hne : (7 : Fin 8) ≠ ⟨i, hlt⟩ := fun q => h7 (congrArg Fin.val q).symm
            have hu : upd b ⟨i, hlt⟩ 7 = b 7 := by unfold upd; rw [if_neg hne]
            rw [hu]
            exact hst
        · simp only [Bool.and_eq_true, beq_iff_eq, List.all_eq_true, List.mem_finRange, forall_const] at h1
          obtain ⟨rfl, hall⟩ := h1
          obtain rfl : b = fun _ => true := funext hall
          obtain rfl : f = 1 := by
            have : cnt (fun _ => true) = 8 := rfl
            omega
          rcases hst with ⟨q1, _⟩ | ⟨_, hp⟩
          · cases q1
          · exact hfin v u hp
  exact main 10 _ v0 w rfl rfl (.inl ⟨rfl, rfl⟩)
/-- a slot that an operation has written, or not yet -/
def pk (c : Bool) (v : Value) : Value := cond c v undef
theorem pk_true {c : Bool} (h : c = true) (v : Value) : pk c v = v := by rw [h]; rfl
theorem wpOpIn_yield {F : Fence} {n : Nat} {P : Program} {ops : Array Oper} {Q : Exit → Act → World → Prop} {i : Nat} {o : Oper} {K : Act → World → Prop} {a : Act} {w : World} {v : Value} (ho : ops[i]? = some o) (hg : o.guard = none) (hnd : ∀ c, o.op ≠ .defer c)
    (hab : o.about P w a.eval = none) (hrun : (execOp a.eval o).run P w = .ok (.value v) w) (hK : K (a.put o.dst v) w) : wpOpIn F n P ops Q i K a w := by
  unfold wpOpIn
  simp only [ho]
  have hw : Region.wanted o (yielded ops a.tmps) = true := by simp [Region.wanted, hg]
  rw [if_pos hw]
  refine ⟨fun f hf => (by rw [hab] at hf; cases hf), ?_⟩
  rw [Oper.semAt_plain F _ _ hnd, hrun]
  exact hK
def mk8 (b0 b1 b2 b3 b4 b5 b6 b7 : Bool) : B8 := fun i => match i with
  | 0 => b0 | 1 => b1 | 2 => b2 | 3 => b3 | 4 => b4 | 5 => b5 | 6 => b6 | 7 => b7
theorem mk8_eta (b : B8) : b = mk8 (b 0) (b 1) (b 2) (b 3) (b 4) (b 5) (b 6) (b 7) := by
  funext ⟨i, hi⟩
  rcases (by omega : i = 0 ∨ i = 1 ∨ i = 2 ∨ i = 3 ∨ i = 4 ∨ i = 5 ∨ i = 6 ∨ i = 7) with rfl | rfl | rfl | rfl | rfl | rfl | rfl | rfl <;> rfl
theorem chk_all {ops : Array Oper} (h : ∀ b0 b1 b2 b3 b4 b5 b6 b7 : Bool, chkReady ops (mk8 b0 b1 b2 b3 b4 b5 b6 b7) = true) (b : B8) : chkReady ops b = true := by
  rw [mk8_eta b]
  exact h _ _ _ _ _ _ _ _
end R8
end Go.Proofs.Ytppdcjjkkckokaa
