/-
  A region that draws its order, in a round: ten operations that read, in whatever order, then the rest as the text has it.
-/
import Derived.Test.YtdnbfgobpkpedaaEdRuns
namespace Go.Proofs.Ytdnbfgobpkpedaa
open Go.RowKit Go.Shelf

abbrev B10 := Fin 10 → Bool
def lst (b : B10) : Array Bool := #[b 0, b 1, b 2, b 3, b 4, b 5, b 6, b 7, b 8, b 9, false, false]
def upd (b : B10) (i : Fin 10) : B10 := fun j => if j = i then true else b j
def one (c : Bool) : Nat := if c then 1 else 0
def cnt (b : B10) : Nat := one (b 0) + one (b 1) + one (b 2) + one (b 3) + one (b 4) + one (b 5) + one (b 6) + one (b 7) + one (b 8) + one (b 9)
theorem lst_upd (b : B10) (i : Fin 10) : (lst b).setIfInBounds i.1 true = lst (upd b i) := by
  rcases i with ⟨i, hi⟩
  rcases (by omega : i = 0 ∨ i = 1 ∨ i = 2 ∨ i = 3 ∨ i = 4 ∨ i = 5 ∨ i = 6 ∨ i = 7 ∨ i = 8 ∨ i = 9) with rfl | rfl | rfl | rfl | rfl | rfl | rfl | rfl | rfl | rfl <;> simp [lst, upd]
theorem cnt_upd (b : B10) (i : Fin 10) (h : b i = false) : cnt (upd b i) = cnt b + 1 := by
  rcases i with ⟨i, hi⟩
  rcases (by omega : i = 0 ∨ i = 1 ∨ i = 2 ∨ i = 3 ∨ i = 4 ∨ i = 5 ∨ i = 6 ∨ i = 7 ∨ i = 8 ∨ i = 9) with rfl | rfl | rfl | rfl | rfl | rfl | rfl | rfl | rfl | rfl <;> (simp only [Fin.isValue, Fin.mk_zero, Fin.mk_one, Fin.reduceFinMk] at h; simp [cnt, upd, one, h]; try omega)
theorem one_le (c : Bool) : one c ≤ 1 := by cases c <;> simp [one]
theorem cnt_le (b : B10) : cnt b ≤ 10 := by
  have := fun i => one_le (b i)
  have h0 := this 0; have h1 := this 1; have h2 := this 2; have h3 := this 3; have h4 := this 4; have h5 := this 5; have h6 := this 6; have h7 := this 7; have h8 := this 8; have h9 := this 9
  unfold cnt
  omega

/-- which reads must lie ahead of one -/
def deps : Fin 10 → List (Fin 10)
  | 3 => [2]
  | 5 => [4]
  | 7 => [6]
  | 8 => [5, 7]
  | 9 => [1, 3, 8]
  | _ => []

/-- what lies ahead of a read that has come has come -/
def closedB (b : B10) : Bool := (List.finRange 10).all fun i => !(b i) || (deps i).all b
theorem closed_upd (b : B10) (i : Fin 10) (h : closedB b = true) (hd : ∀ j ∈ deps i, b j = true) : closedB (upd b i) = true := by
  simp only [closedB, List.all_eq_true, List.mem_finRange, Bool.or_eq_true, Bool.not_eq_true', forall_const] at h ⊢
  intro k
  have hup : ∀ j, b j = true → upd b i j = true := fun j hj => by unfold upd; split <;> simp_all
  by_cases hk : k = i
  · exact .inr fun j hj => hup j (hd j (hk ▸ hj))
  · rcases h k with h1 | h1
    · left
      unfold upd
      rw [if_neg hk]
      exact h1
    · exact .inr fun j hj => hup j (h1 j hj)
/-- what may come up next -/
def chkReady (ops : Array Oper) (b : B10) : Bool :=
  !(closedB b) || !(Region.ready .any ops (lst b)).isEmpty && (Region.ready .any ops (lst b)).all fun i =>
    if h : i < 10 then !(b ⟨i, h⟩) && (deps ⟨i, h⟩).all b else i == 10 && (List.finRange 10).all b

theorem any10 {F : Fence} {n : Nat} {P : Program} {ops : Array Oper} {Q : Exit → Act → World → Prop} {w : World} (act : B10 → Act)
    (hr : ∀ b, chkReady ops b = true)
    (hstep : ∀ (b : B10) (i : Fin 10), (∀ j ∈ deps i, b j = true) → ∀ K : Act → World → Prop, K (act (upd b i)) w → wpOpIn F n P ops Q i.1 K (act b) w)
    (hfin : wpOpIn F n P ops Q 10 (wpAnyIn F n P .any ops Q 1 #[true, true, true, true, true, true, true, true, true, true, true, false]) (act fun _ => true) w) :
    wpAnyIn F n P .any ops Q 12 (lst fun _ => false) (act fun _ => false) w := by
  have main : ∀ (fuel : Nat) (b : B10), closedB b = true → fuel + cnt b = 12 → wpAnyIn F n P .any ops Q fuel (lst b) (act b) w := by
    intro fuel
    induction fuel with
    | zero => intro b _ h; have := cnt_le b; omega
    | succ f ih =>
      intro b hcl h
      have hb := hr b
      unfold chkReady at hb
      rw [hcl] at hb
      simp only [Bool.not_true, Bool.false_or] at hb
      simp only [Bool.and_eq_true, List.all_eq_true] at hb
      refine ⟨fun h0 => ?_, fun i hi => ?_⟩
      · rw [h0] at hb
        simp at hb
      · have h1 := hb.2 i hi
        split at h1
        · rename_i hlt
          simp only [Bool.and_eq_true, Bool.not_eq_true', List.all_eq_true] at h1
          refine hstep b ⟨i, hlt⟩ h1.2 _ ?_
          have e := lst_upd b ⟨i, hlt⟩
          dsimp only at e
          rw [e]
          exact ih _ (closed_upd b ⟨i, hlt⟩ hcl h1.2) (by rw [cnt_upd b ⟨i, hlt⟩ h1.1]; omega)
        · simp only [Bool.and_eq_true, beq_iff_eq, List.all_eq_true, List.mem_finRange, forall_const] at h1
          obtain ⟨rfl, hall⟩ := h1
          obtain rfl : b = fun _ => true := funext hall
          obtain rfl : f = 1 := by
            have : cnt (fun _ => true) = 10 := rfl
            omega
          exact hfin
  exact main 12 _ rfl rfl

/-- a slot that an operation has written, or not yet -/
def pick (c : Bool) (v : Value) : Value := cond c v undef
theorem pick_true {c : Bool} (h : c = true) (v : Value) : pick c v = v := by rw [h]; rfl
theorem wpOpIn_yield {F : Fence} {n : Nat} {P : Program} {ops : Array Oper} {Q : Exit → Act → World → Prop} {i : Nat} {o : Oper} {K : Act → World → Prop} {a : Act} {w : World} {v : Value} (ho : ops[i]? = some o) (hg : o.guard = none) (hnd : ∀ c, o.op ≠ .defer c)
    (hab : o.about P w a.eval = none) (hrun : (execOp a.eval o).run P w = .ok (.value v) w) (hK : K (a.put o.dst v) w) : wpOpIn F n P ops Q i K a w := by
  unfold wpOpIn
  simp only [ho]
  have hw : Region.wanted o (yielded ops a.tmps) = true := by simp [Region.wanted, hg]
  rw [if_pos hw]
  refine ⟨fun f hf => (by rw [hab] at hf; cases hf), ?_⟩
  rw [Oper.semAt_plain F _ _ hnd, hrun]
  exact hK
def mk10 (b0 b1 b2 b3 b4 b5 b6 b7 b8 b9 : Bool) : B10 := fun i => match i with
  | 0 => b0 | 1 => b1 | 2 => b2 | 3 => b3 | 4 => b4 | 5 => b5 | 6 => b6 | 7 => b7 | 8 => b8 | 9 => b9
theorem mk10_eta (b : B10) : b = mk10 (b 0) (b 1) (b 2) (b 3) (b 4) (b 5) (b 6) (b 7) (b 8) (b 9) := by
  funext ⟨i, hi⟩
  rcases (by omega : i = 0 ∨ i = 1 ∨ i = 2 ∨ i = 3 ∨ i = 4 ∨ i = 5 ∨ i = 6 ∨ i = 7 ∨ i = 8 ∨ i = 9) with rfl | rfl | rfl | rfl | rfl | rfl | rfl | rfl | rfl | rfl <;> rfl
theorem chk_all {ops : Array Oper} (h : ∀ b0 b1 b2 b3 b4 b5 b6 b7 b8 b9 : Bool, chkReady ops (mk10 b0 b1 b2 b3 b4 b5 b6 b7 b8 b9) = true) (b : B10) : chkReady ops b = true := by
  rw [mk10_eta b]
  exact h _ _ _ _ _ _ _ _ _ _

theorem wpOpIn_append_h {F : Fence} {n : Nat} (w : World) {ops : Array Oper} {i : Nat} {o : Oper} {a : Act} {K : Act → World → Prop} {Q : Exit → Act → World → Prop} (hi : ops[i]? = some o)
    (hg : o.guard = none) (s x : Operand) (T E : TypeId) (ho : o.op = Op.call { callee := Callee.builtin Builtin.append, args := #[s, x], argTypes := #[T, T] })
    (z : Value) (size bytes : Nat) (hT : Try.prog.underlying T = some (.slice E)) (hinfo : (Try.prog.info? E).map (fun i => (i.zero, i.size, i.bytes)) = some (some z, size, bytes)) (hz1 : z.cells.size = size) (hsz : 0 < size) (hby : bytes ≤ 32)
    (base : Nat) (v : Value) (k : Nat) (xs : List Value) (hs : a.eval s = v) (hown : w.ownsRow base E size v k xs) (vx : Value) (m : Nat) (news : List Value) (hx : a.eval x = vx) (hh : Holds w vx m news) (hl : news.length = m * size)
    (h1 : ∀ u ∈ news, u.oneCell' = true) (hk : k + m ≤ 4398046511104) (hbase : base ≤ w.heap.size)
    (h : ∀ v' w', w'.ownsRow base E size v' (k + m) (xs ++ news) → w.grownBy w' v.ownBlock → (v'.ownBlock = v.ownBlock ∨ v'.ownBlock = some w.heap.size) → K (a.put o.dst v') w') :
    wpOpIn F n Try.prog ops Q i K a w := by
  obtain ⟨i0, hi0, hz0, hzs, hz2⟩ := info_parts hinfo
  have hrun : ∃ v' w', (Builtin.append_ #[T, T] o.type #[v, vx]).run Try.prog w = .ok v' w' ∧ w'.ownsRow base E size v' (k + m) (xs ++ news) ∧ w.grownBy w' v.ownBlock ∧ (v'.ownBlock = v.ownBlock ∨ v'.ownBlock = some w.heap.size) := by
    rcases hh with ⟨rfl, rfl, rfl⟩ | ⟨ad, c, rfl, _, hc⟩
    · exact ⟨v, w, run_append_owned_none (P := Try.prog) (w := w) base T o.type E i0 size hT hi0 v k xs hown, by simpa using hown, World.grownBy.refl _ _, .inl rfl⟩
    · obtain ⟨v', w', hr, h2, h3, _, h5⟩ := run_append_own_at (P := Try.prog) w base T o.type E i0 z size bytes hT hi0 hz0 hzs hz2 hz1 hsz v k xs hown ad m c news hl hc h1 (by unfold maxLen; omega) (by
        have : (k + m) * bytes ≤ (k + m) * 32 := Nat.mul_le_mul_left _ hby
        omega) hbase
      exact ⟨v', w', hr, h2, h3, h5⟩
  obtain ⟨v', w', hrun, r1, r2, r3⟩ := hrun
  unfold wpOpIn
  simp only [hi]
  have hw : Region.wanted o (yielded ops a.tmps) = true := by simp [Region.wanted, hg]
  rw [if_pos hw]
  unfold Oper.wpIn
  refine ⟨?_, ?_⟩
  · simp [Oper.about, ho, resolve, Target.leads, Sem.run_pure]
  · rw [Oper.semAt_plain F _ _ (by rw [ho]; intro c hc'; cases hc')]
    simp [execOp, ho, resolve, invoke, builtin, hs, hx, hrun, Result.andThen]
    exact h v' w' r1 r2 r3
end Go.Proofs.Ytdnbfgobpkpedaa
