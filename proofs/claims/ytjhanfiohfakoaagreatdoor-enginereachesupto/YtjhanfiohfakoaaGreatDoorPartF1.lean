/-
  Texts that belong together, joined: EdReg, EdApp, EdInv.
-/
import Derived.Test.YtjhanfiohfakoaaGreatDoorPartA5
import Derived.Test.YtjhanfiohfakoaaGreatDoorPartC1

/- A region that draws its order, in a round: ten operations that read, in whatever order, then the rest as the text has it. -/
set_option maxRecDepth 20000
namespace Go.Proofs.YtjhanfiohfakoaaGreatDoor
open Go.RowKit Go.Shelf
namespace R10

abbrev B10 := Fin 10 → Bool
def lst (b : B10) : Array Bool := #[b 0, b 1, b 2, b 3, b 4, b 5, b 6, b 7, b 8, b 9, false, false]
def upd (b : B10) (i : Fin 10) : B10 := fun j => if j = i then true else b j
def one (c : Bool) : Nat := if c then 1 else 0
def cnt (b : B10) : Nat := one (b 0) + one (b 1) + one (b 2) + one (b 3) + one (b 4) + one (b 5) + one (b 6) + one (b 7) + one (b 8) + one (b 9)
theorem lst_upd (b : B10) (i : Fin 10) : (lst b).setIfInBounds i.1 true = lst (upd b i) := by
  rcases i with ⟨i, hi⟩
  rcases (by omega : i = 0 ∨ i = 1 ∨ i = 2 ∨ i = 3 ∨ i = 4 ∨ i = 5 ∨ i = 6 ∨ i = 7 ∨ i = 8 ∨ i = 9) with rfl | rfl | rfl | rfl | rfl | rfl | rfl | rfl | rfl | rfl <;> simp [lst, upd]
theorem cnt_upd (b : B10) (i : Fin 10) (h : b i = false) : cnt (upd b i) = cnt b + 1 := by
  rcases i with ⟨i, hi⟩
  rcases (by omega : i = 0 ∨ i = 1 ∨ i = 2 ∨ i = 3 ∨ i = 4 ∨ i = 5 ∨ i = 6 ∨ i = 7 ∨ i = 8 ∨ i = 9) with rfl | rfl | rfl | rfl | rfl | rfl | rfl | rfl | rfl | rfl <;> (simp only [Fin.isValue, Fin.mk_zero, Fin.mk_one, Fin.reduceFinMk] at h; simp [cnt, upd, one, h]; try omega)
theorem one_le (c : Bool) : one c ≤ 1 := by cases c <;> simp [one]
theorem cnt_le (b : B10) : cnt b ≤ 10 := by
  have := fun i => one_le (b i)
  have h0 := this 0; have h1 := this 1; have h2 := this 2; have h3 := this 3; have h4 := this 4; have h5 := this 5; have h6 := this 6; have h7 := this 7; have h8 := this 8; have h9 := this 9
  unfold cnt
  omega

/-- which reads must lie ahead of one -/
def deps : Fin 10 → List (Fin 10)
  | 3 => [2]
  | 5 => [4]
  | 7 => [6]
  | 8 => [5, 7]
  | 9 => [1, 3, 8]
  | _ => []

/-- what lies ahead of a read that has come has come -/
def closedB (b : B10) : Bool := (List.finRange 10).all fun i => !(b i) || (deps i).all b
theorem closed_upd (b : B10) (i : Fin 10) (h : closedB b = true) (hd : ∀ j ∈ deps i, b j = true) : closedB (upd b i) = true := by
  simp only [closedB, List.all_eq_true, List.mem_finRange, Bool.or_eq_true, Bool.not_eq_true', forall_const] at h ⊢
  intro k
  have hup : ∀ j, b j = true → upd b i j = true := fun j hj => by unfold upd; split <;> simp_all
  by_cases hk : k = i
  · exact .inr fun j hj => hup j (hd j (hk ▸ hj))
  · rcases h k with h1 | h1
    · left
      unfold upd
      rw [if_neg hk]
      exact h1
    · exact .inr fun j hj => hup j (h1 j hj)
/-- what may come up next -/
def chkReady (ops : Array Oper) (b : B10) : Bool :=
  !(closedB b) || !(Region.ready .any ops (lst b)).isEmpty && (Region.ready .any ops (lst b)).all fun i =>
    if h : i < 10 then !(b ⟨i, h⟩) && (deps ⟨i, h⟩).all b else i == 10 && (List.finRange 10).all b

theorem any10 {F : Fence} {n : Nat} {P : Program} {ops : Array Oper} {Q : Exit → Act → World → Prop} {w : World} (act : B10 → Act)
    (hr : ∀ b, chkReady ops b = true)
    (hstep : ∀ (b : B10) (i : Fin 10), (∀ j ∈ deps i, b j = true) → ∀ K : Act → World → Prop, K (act (upd b i)) w → wpOpIn F n P ops Q i.1 K (act b) w)
    (hfin : wpOpIn F n P ops Q 10 (wpAnyIn F n P .any ops Q 1 #[true, true, true, true, true, true, true, true, true, true, true, false]) (act fun _ => true) w) :
    wpAnyIn F n P .any ops Q 12 (lst fun _ => false) (act fun _ => false) w := by
  have main : ∀ (fuel : Nat) (b : B10), closedB b = true → fuel + cnt b = 12 → wpAnyIn F n P .any ops Q fuel (lst b) (act b) w := by
    intro fuel
    induction fuel with
    | zero => intro b _ h; have := cnt_le b; omega
    | succ f ih =>
      intro b hcl h
      have hb := hr b
      unfold chkReady at hb
      rw [hcl] at hb
      simp only [Bool.not_true, Bool.false_or] at hb
      simp only [Bool.and_eq_true, List.all_eq_true] at hb
      refine ⟨fun h0 => ?_, fun i hi => ?_⟩
      · rw [h0] at hb
        simp at hb
      · have h1 := hb.2 i hi
        split at h1
        · rename_i hlt
          simp only [Bool.and_eq_true, Bool.not_eq_true', List.all_eq_true] at h1
          refine hstep b ⟨i, hlt⟩ h1.2 _ ?_
          have e := lst_upd b ⟨i, hlt⟩
          dsimp only at e
          rw [e]
          exact ih _ (closed_upd b ⟨i, hlt⟩ hcl h1.2) (by rw [cnt_upd b ⟨i, hlt⟩ h1.1]; omega)
        · simp only [Bool.and_eq_true, beq_iff_eq, List.all_eq_true, List.mem_finRange, forall_const] at h1
          obtain ⟨rfl, hall⟩ := h1
          obtain rfl : b = fun _ => true := funext hall
          obtain rfl : f = 1 := by
            have : cnt (fun _ => true) = 10 := rfl
            omega
          exact hfin
  exact main 12 _ rfl rfl

/-- a slot that an operation has written, or not yet -/
def pickV (c : Bool) (v : Value) : Value := cond c v undef
theorem pickV_true {c : Bool} (h : c = true) (v : Value) : pickV c v = v := by rw [h]; rfl
theorem wpOpIn_yield {F : Fence} {n : Nat} {P : Program} {ops : Array Oper} {Q : Exit → Act → World → Prop} {i : Nat} {o : Oper} {K : Act → World → Prop} {a : Act} {w : World} {v : Value} (ho : ops[i]? = some o) (hg : o.guard = none) (hnd : ∀ c, o.op ≠ .defer c)
    (hab : o.about P w a.eval = none) (hrun : (execOp a.eval o).run P w = .ok (.value v) w) (hK : K (a.put o.dst v) w) : wpOpIn F n P ops Q i K a w := by
  unfold wpOpIn
  simp only [ho]
  have hw : Region.wanted o (yielded ops a.tmps) = true := by simp [Region.wanted, hg]
  rw [if_pos hw]
  refine ⟨fun f hf => (by rw [hab] at hf; cases hf), ?_⟩
  rw [Oper.semAt_plain F _ _ hnd, hrun]
  exact hK
def mk10 (b0 b1 b2 b3 b4 b5 b6 b7 b8 b9 : Bool) : B10 := fun i => match i with
  | 0 => b0 | 1 => b1 | 2 => b2 | 3 => b3 | 4 => b4 | 5 => b5 | 6 => b6 | 7 => b7 | 8 => b8 | 9 => b9
theorem mk10_eta (b : B10) : b = mk10 (b 0) (b 1) (b 2) (b 3) (b 4) (b 5) (b 6) (b 7) (b 8) (b 9) := by
  funext ⟨i, hi⟩
  rcases (by omega : i = 0 ∨ i = 1 ∨ i = 2 ∨ i = 3 ∨ i = 4 ∨ i = 5 ∨ i = 6 ∨ i = 7 ∨ i = 8 ∨ i = 9) with rfl | rfl | rfl | rfl | rfl | rfl | rfl | rfl | rfl | rfl <;> rfl
theorem chk_all {ops : Array Oper} (h : ∀ b0 b1 b2 b3 b4 b5 b6 b7 b8 b9 : Bool, chkReady ops (mk10 b0 b1 b2 b3 b4 b5 b6 b7 b8 b9) = true) (b : B10) : chkReady ops b = true := by
  rw [mk10_eta b]
  exact h _ _ _ _ _ _ _ _ _ _

theorem wpOpIn_append_h {F : Fence} {n : Nat} (w : World) {ops : Array Oper} {i : Nat} {o : Oper} {a : Act} {K : Act → World → Prop} {Q : Exit → Act → World → Prop} (hi : ops[i]? = some o)
    (hg : o.guard = none) (s x : Operand) (T E : TypeId) (ho : o.op = Op.call { callee := Callee.builtin Builtin.append, args := #[s, x], argTypes := #[T, T] })
    (z : Value) (size bytes : Nat) (hT : Tryz.prog.underlying T = some (.slice E)) (hinfo : (Tryz.prog.info? E).map (fun i => (i.zero, i.size, i.bytes)) = some (some z, size, bytes)) (hz1 : z.cells.size = size) (hsz : 0 < size) (hby : bytes ≤ 32)
    (base : Nat) (v : Value) (k : Nat) (xs : List Value) (hs : a.eval s = v) (hown : w.ownsRow base E size v k xs) (vx : Value) (m : Nat) (news : List Value) (hx : a.eval x = vx) (hh : Holds w vx m news) (hl : news.length = m * size)
    (h1 : ∀ u ∈ news, u.oneCell' = true) (hk : k + m ≤ 4398046511104) (hbase : base ≤ w.heap.size)
    (h : ∀ v' w', w'.ownsRow base E size v' (k + m) (xs ++ news) → w.grownBy w' v.ownBlock → (v'.ownBlock = v.ownBlock ∨ v'.ownBlock = some w.heap.size) → K (a.put o.dst v') w') :
    wpOpIn F n Tryz.prog ops Q i K a w := by
  obtain ⟨i0, hi0, hz0, hzs, hz2⟩ := info_parts hinfo
  have hrun : ∃ v' w', (Builtin.append_ #[T, T] o.type #[v, vx]).run Tryz.prog w = .ok v' w' ∧ w'.ownsRow base E size v' (k + m) (xs ++ news) ∧ w.grownBy w' v.ownBlock ∧ (v'.ownBlock = v.ownBlock ∨ v'.ownBlock = some w.heap.size) := by
    rcases hh with ⟨rfl, rfl, rfl⟩ | ⟨ad, c, rfl, _, hc⟩
    · exact ⟨v, w, run_append_owned_none (P := Tryz.prog) (w := w) base T o.type E i0 size hT hi0 v k xs hown, by simpa using hown, World.grownBy.refl _ _, .inl rfl⟩
    · obtain ⟨v', w', hr, h2, h3, _, h5⟩ := run_append_own_at (P := Tryz.prog) w base T o.type E i0 z size bytes hT hi0 hz0 hzs hz2 hz1 hsz v k xs hown ad m c news hl hc h1 (by unfold maxLen; omega) (by
        have : (k + m) * bytes ≤ (k + m) * 32 := Nat.mul_le_mul_left _ hby
        omega) hbase
      exact ⟨v', w', hr, h2, h3, h5⟩
  obtain ⟨v', w', hrun, r1, r2, r3⟩ := hrun
  unfold wpOpIn
  simp only [hi]
  have hw : Region.wanted o (yielded ops a.tmps) = true := by simp [Region.wanted, hg]
  rw [if_pos hw]
  unfold Oper.wpIn
  refine ⟨?_, ?_⟩
  · simp [Oper.about, ho, resolve, Target.leads, Sem.run_pure]
  · rw [Oper.semAt_plain F _ _ (by rw [ho]; intro c hc'; cases hc')]
    simp [execOp, ho, resolve, invoke, builtin, hs, hx, hrun, Result.andThen]
    exact h v' w' r1 r2 r3
end R10
end Go.Proofs.YtjhanfiohfakoaaGreatDoor

/- What a script makes of a text: the code's Apply, walked. -/
set_option maxRecDepth 20000
namespace Go.Proofs.YtjhanfiohfakoaaGreatDoor
open Go.RowKit Go.Shelf
open R10
attribute [local go_sem] Oper.semAt_some


theorem cut_at (A : List (List UInt8)) (i n : Int) (j : Nat) (u : Value) (h : (scells (cut A i n))[j]? = some u) : (scells A)[i.toNat + j]? = some u ∧ j < n.toNat := by
  simp only [scells, cut, List.getElem?_map, List.getElem?_take, List.getElem?_drop] at h ⊢
  split at h
  · exact ⟨h, by assumption⟩
  · simp at h
theorem cut_length (A : List (List UInt8)) (i n : Int) (h0 : 0 ≤ i) (h1 : 0 ≤ n) (h2 : i + n ≤ A.length) : (cut A i n).length = n.toNat := by
  simp [cut]; omega
set_option maxRecDepth 10000 in
theorem run_cut (A : List (List UInt8)) (ao : Option Addr) (cap : Nat) (i n : Int) (h0 : 0 ≤ i) (h1 : 0 ≤ n) (h2 : i + n ≤ A.length) (w : World) (hA : HS w (.slice ao A.length cap) A) :
    ∃ vs, (∀ u : World, (Instr.slice 22 (.slice ao A.length cap) (some (.int .i64 i)) (some (.int .i64 (i + n))) none).run Tryz.prog u = .ok vs u) ∧ (∀ u : World, HS u (.slice ao A.length cap) A → HS u vs (cut A i n)) := by
  have hnc : A.length ≤ cap ∧ (ao = none → A = []) := by
    rcases hA with ⟨h, h3, _⟩ | ⟨ad, c, h, h3, _⟩
    · exact ⟨by omega, fun _ => List.eq_nil_of_length_eq_zero h3⟩
    · cases h
      exact ⟨h3, fun h => by cases h⟩
  refine ⟨.slice (if cap = i.toNat then ao else ao.map (·.add i.toNat)) n.toNat (cap - i.toNat), fun u => ?_, fun u hu => ?_⟩
  · rw [run_slice_lh (P := Tryz.prog) u 22 ao A.length cap (by kernel_rfl) .i64 .i64 i (i + n) h0 (by omega) (by omega)]
    have : (sizeOf (Tryz.prog.elem 22)).run Tryz.prog u = .ok 1 u := by kernel_rfl
    rw [this]
    simp only [Result.andThen, sliced, Nat.mul_one]
    congr 2
    omega
  · unfold HS
    rw [cut_length A i n h0 h1 h2]
    cases ao with
    | none =>
      have hA0 := hnc.2 rfl
      subst hA0
      have : i = 0 := by simp at h2; omega
      subst this
      have : n = 0 := by simp at h2; omega
      subst this
      refine .inl ⟨?_, rfl, by simp [cut, scells]⟩
      rcases hA with ⟨h, h3, _⟩ | ⟨ad, c, h, h3, _⟩
      · cases h; simp
      · cases h
    | some ad =>
      refine .inr ⟨if cap = i.toNat then ad else ad.add i.toNat, cap - i.toNat, by split <;> simp, by omega, fun j x hj => ?_⟩
      obtain ⟨h4, h5⟩ := cut_at A i n j x hj
      rcases hu with ⟨h, _⟩ | ⟨ad', c, h, h3, hc⟩
      · cases h
      · cases h
        have := hc _ _ h4
        rw [if_neg (by omega)]
        obtain ⟨b, off, rfl⟩ := addr_of (hc 0 _ (List.getElem?_eq_getElem (by rw [scells_length]; omega)))
        rw [add_none] at this
        rw [add_none, add_none, Nat.add_assoc]
        exact this

theorem pas_length {n m : Int} (A B : List (List UInt8)) (pre : List (Pie n m)) : (pre.flatMap fun x => pa A B x.1).length ≤ pre.length * (A.length + B.length) := by
  induction pre with
  | nil => simp
  | cons x t ih =>
    have h1 : (pa A B x.1).length ≤ A.length + B.length := by simp [pa, cut]; omega
    simp only [List.flatMap_cons, List.length_append, List.length_cons]
    rw [Nat.add_mul]
    omega
theorem Apply_no (l : List Ch) (A B : List (List UInt8)) (v va vb : Value) (w : World) (hl : HCh w v l) (ha : HS w va A) (hb : HS w vb B) (hS : ¬ Script l A.length B.length) (hA : A.length ≤ 1048576) (hBl : B.length ≤ 1048576) (hlen : l.length ≤ 1048576) :
    Calls Tryz.prog 16 #[v, va, vb] w fun e w' => e = .returned (.tuple #[.slice none 0 0, .int .i64 50]) ∧ Below w.heap.size w w' := by
  obtain ⟨ao, ca, rfl⟩ := Holds.form hl
  obtain ⟨aa, caa, rfl⟩ := Holds.form ha
  obtain ⟨ab, cab, rfl⟩ := Holds.form hb
  have hB0 : Below w.heap.size w ((w.alloc (Obj.cells #[Value.slice aa A.length caa] 22)).alloc (Obj.cells #[Value.slice ab B.length cab] 22)) := ((Below.refl _ w).alloc (Nat.le_refl _) _).alloc (by simp) _
  go_enter Tryz.func16, Tryz.ntmps16
  go_wp2_with fail
  refine (Check_f l A.length B.length 50 _ _ (HCh.keep hl hB0 (Nat.le_refl _)) (by omega) (by omega) (by omega) (chk_no hS)).mono ?_
  rintro e w1 ⟨rfl, hB⟩
  go_wp2
  go_ret2
  exact ⟨rfl, hB0.trans (hB.mono hB0.size)⟩

set_option maxRecDepth 100000 in
set_option maxHeartbeats 2000000 in
theorem Apply_ok (l : List Ch) (A B : List (List UInt8)) (v va vb : Value) (w : World) (hl : HCh w v l) (ha : HS w va A) (hb : HS w vb B) (hS : Script l A.length B.length) (hA : A.length ≤ 1048576) (hBl : B.length ≤ 1048576) (hlen : l.length ≤ 1048576) :
    Calls Tryz.prog 16 #[v, va, vb] w fun e w' => ∃ v', e = .returned (.tuple #[v', .int .i64 0]) ∧ w'.ownsRow w.heap.size 9 1 v' (applyL l A B).length (scells (applyL l A B)) ∧ Below w.heap.size w w' := by
  obtain ⟨ao, ca, rfl⟩ := Holds.form hl
  obtain ⟨aa, caa, rfl⟩ := Holds.form ha
  obtain ⟨ab, cab, rfl⟩ := Holds.form hb
  have HS' : Hid (Script l A.length B.length) := hS
  clear hS
  have hmk := run_make0 Tryz.underlying22 infoStr (by decide) B.length (by omega)
  have hB0 : Below w.heap.size w ((w.alloc (Obj.cells #[Value.slice aa A.length caa] 22)).alloc (Obj.cells #[Value.slice ab B.length cab] 22)) := ((Below.refl _ w).alloc (Nat.le_refl _) _).alloc (by simp) _
  have bA := (Boxed.new w 22 (Value.slice aa A.length caa)).alloc (Obj.cells #[Value.slice ab B.length cab] 22)
  have bB := Boxed.new (w.alloc (Obj.cells #[Value.slice aa A.length caa] 22)) 22 (Value.slice ab B.length cab)
  rw [World.size_alloc] at bB
  obtain ⟨wb, hwb⟩ : ∃ wb, (w.alloc (Obj.cells #[Value.slice aa A.length caa] 22)).alloc (Obj.cells #[Value.slice ab B.length cab] 22) = wb := ⟨_, rfl⟩
  have hszb : wb.heap.size = w.heap.size + 1 + 1 := by rw [← hwb]; simp
  rw [hwb] at hB0 bA bB
  refine (callsIn_wide (n := 3)).1 ?_
  refine callsIn_of_wp_marks Tryz.func16 rfl trivial ?_ rfl
  simp only [Tryz.ntmps16, List.size_toArray, List.length_cons, List.length_nil, Nat.reduceAdd, Nat.reduceSub, Array.replicate_succ, Array.replicate_zero, List.push_toArray, List.append_toArray, List.nil_append, List.cons_append]
  have cA := bA.cell
  have cB := bB.cell
  gi_wp2_with (refine ⟨trivial, ?_⟩; gi_at_call 25; refine (callsIn_wide.2 (Check_f l A.length B.length 0 _ wb (HCh.keep hl hB0 (Nat.le_refl _)) (by omega) (by omega) (by omega) (chk_ok HS'.out))).mono ?_; rintro e w1 ⟨rfl, hB1⟩; have hs1 := hB1.size; have bA1 : Boxed w1 w.heap.size 22 (Value.slice aa A.length caa) := (hB1.block _ (by omega)).trans bA; have bB1 : Boxed w1 (w.heap.size + 1) 22 (Value.slice ab B.length cab) := (hB1.block _ (by omega)).trans bB; have cA1 := bA1.cell; have cB1 := bB1.cell; have cA2 := ((bA1.alloc (Obj.cells (madeCells #[Value.string { data := #[] }] B.length) 9)).alloc (Obj.cells #[Value.slice (some { block := w1.heap.size, off := 0 }) 0 B.length] 22)).cell; have cB2 := ((bB1.alloc (Obj.cells (madeCells #[Value.string { data := #[] }] B.length) 9)).alloc (Obj.cells #[Value.slice (some { block := w1.heap.size, off := 0 }) 0 B.length] 22)).cell; clear cA cB)
  gi_wp2_with (refine ⟨trivial, ?_⟩; gi_at_call 26; refine (callsIn_wide.2 (pieces_any _ _ _ _ _ _)).mono ?_; rintro e w' ⟨rfl, rfl⟩)
  clear cA1 cB1 cA2 cB2
  obtain ⟨W0, hW0⟩ : ∃ W0, (((((w1.alloc (Obj.cells (madeCells #[Value.string { data := #[] }] B.length) 9)).alloc (Obj.cells #[Value.slice (some { block := w1.heap.size, off := 0 }) 0 B.length] 22)).alloc (Obj.cells #[Value.slice ao l.length ca] 25)).alloc (Obj.cells #[Value.int IntKind.i64 A.length] 3)).alloc (Obj.cells #[Value.int IntKind.i64 B.length] 3)) = W0 := ⟨_, rfl⟩
  obtain ⟨hsz, b0, b1, b2, hB2⟩ := boxes3 _ _ _ _ W0 hW0
  have hsu : ((w1.alloc (Obj.cells (madeCells #[Value.string { data := #[] }] B.length) 9)).alloc (Obj.cells #[Value.slice (some { block := w1.heap.size, off := 0 }) 0 B.length] 22)).heap.size = w1.heap.size + 1 + 1 := by simp
  have hrow := row_made (E := 9) (z := .string ⟨#[]⟩) B.length (by omega) w1 (Nat.le_refl w1.heap.size)
  have bK := Boxed.new (w1.alloc (Obj.cells (madeCells #[Value.string { data := #[] }] B.length) 9)) 22 (Value.slice (some { block := w1.heap.size, off := 0 }) 0 B.length)
  rw [World.size_alloc] at bK
  rw [hsu] at hsz b0 b1 b2 hB2
  have hBk : ∀ k, k < w1.heap.size + 1 + 1 → W0.heap[k]? = ((w1.alloc (Obj.cells (madeCells #[Value.string { data := #[] }] B.length) 9)).alloc (Obj.cells #[Value.slice (some { block := w1.heap.size, off := 0 }) 0 B.length] 22)).heap[k]? := hB2.block
  have bK0 : Boxed W0 (w1.heap.size + 1) 22 (Value.slice (some { block := w1.heap.size, off := 0 }) 0 B.length) := (hBk _ (by omega)).trans bK
  have hrow0 : W0.ownsRow w1.heap.size 9 1 (Value.slice (some { block := w1.heap.size, off := 0 }) 0 B.length) 0 [] := by
    have hr1 := hrow.alloc (Obj.cells #[Value.slice (some { block := w1.heap.size, off := 0 }) 0 B.length] 22)
    rw [← hW0]
    exact ((hr1.alloc _).alloc _).alloc _
  have hB00 : Below w1.heap.size w1 W0 := (((Below.refl _ w1).alloc (Nat.le_refl _) _).alloc (by simp) _).trans (hB2.mono (by omega))
  have hBw : Below w.heap.size w w1 := hB0.trans (hB1.mono hB0.size)
  clear hrow bK hBk hB2 hsu
  rw [hW0]
  have haW : HS W0 (.slice aa A.length caa) A := HS.keep (HS.keep ha hBw (Nat.le_refl _)) hB00 (Nat.le_refl _)
  have hbW : HS W0 (.slice ab B.length cab) B := HS.keep (HS.keep hb hBw (Nat.le_refl _)) hB00 (Nat.le_refl _)
  refine wpIn_rangeFunc_ownH rfl (by omega) (gf := 43) (lb := #[.pointer (some ⟨w1.heap.size + 1 + 1, 0, none⟩), .pointer (some ⟨w1.heap.size + 1 + 1 + 1, 0, none⟩), .pointer (some ⟨w1.heap.size + 1 + 1 + 1 + 1, 0, none⟩)]) rfl trivial (enters_of Tryz.func43 (by kernel_rfl) rfl)
    (pieces_stops 2 (by omega) (w1.heap.size + 1 + 1) w1.heap.size ao ca l A.length B.length HS'.out (by omega) (by omega) (by omega) W0 (by omega) (by omega) b0 b1 b2 (HCh.keep (HCh.keep hl hBw (Nat.le_refl _)) hB00 (Nat.le_refl _)) (fun a ha h0 => HCh.lt (HCh.keep hl hBw (Nat.le_refl _)) a ha h0)) Kp.trans (Kp.putObj (by omega) (by omega)) (Below.refl _ _) (fun _ => rfl)
    (fun pre W => (∃ v, OwnR w1.heap.size (w1.heap.size + 1 + 1) (w1.heap.size + 1) 22 9 1 v (pre.flatMap fun x => pa A B x.1).length (scells (pre.flatMap fun x => pa A B x.1)) W) ∧ Below w1.heap.size W0 W)
    (fun _ _ _ => False)
    (ownR_own (by omega) (by omega) _ _)
    (fun _ _ _ _ _ hs _ _ => hs)
    ⟨⟨_, bK0, hrow0, fun g hg => by simp [Value.ownBlock] at hg; omega⟩, Below.refl _ _⟩
    (fun x a' W => ∃ Bx Bc, W.heap[Bx]? = some (Obj.cells #[.int .i64 x.1.1.a, .int .i64 x.1.1.b, .int .i64 x.1.1.n] 59 (0, 0)) ∧ W.heap[Bc]? = some (Obj.cells #[.int .i64 x.1.2.A, .int .i64 x.1.2.AN, .int .i64 x.1.2.B, .int .i64 x.1.2.BN] 53 (0, 0)) ∧ a' = { tmps := #[.slice ao l.length ca, .slice aa A.length caa, .slice ab B.length cab, undef, .pointer (some ⟨w.heap.size, 0, none⟩), .pointer (some ⟨w.heap.size + 1, 0, none⟩), .slice none 0 0, .int .i64 0, .int .i64 0, .pointer (some ⟨w1.heap.size + 1, 0, none⟩), .pointer (some ⟨Bx, 0, none⟩), .pointer (some ⟨Bc, 0, none⟩), .slice ao l.length ca, .slice aa A.length caa, .int .i64 A.length, .slice ab B.length cab, .int .i64 B.length, .int .i64 0, .int .i64 0, .bool false, undef, .slice ab B.length cab, .int .i64 B.length, .slice (some ⟨w1.heap.size, 0, none⟩) 0 B.length, .slice ao l.length ca, .slice aa A.length caa, .int .i64 A.length, .slice ab B.length cab, .int .i64 B.length, .func (.func 43) #[] #[.pointer (some ⟨w1.heap.size + 1 + 1, 0, none⟩), .pointer (some ⟨w1.heap.size + 1 + 1 + 1, 0, none⟩), .pointer (some ⟨w1.heap.size + 1 + 1 + 1 + 1, 0, none⟩)], rnV x.1.1, chV x.1.2, undef, undef, undef, undef, undef, undef, undef, undef, undef, undef, undef, undef, undef, undef, undef, undef, undef, undef, undef, undef, undef, undef, undef], defers := [] })
    ?hAx ?assign ?body ?done ?stop
  case hAx =>
    rintro x a' _ A B row ⟨Bx, Bc, hx, hxc, rfl⟩ hg hr
    refine ⟨Bx, Bc, (hg.block Bx (Array.getElem?_eq_some_iff.1 hx).1 (fun e => ?_)).trans hx, (hg.block Bc (Array.getElem?_eq_some_iff.1 hxc).1 (fun e => ?_)).trans hxc, rfl⟩
    · obtain ⟨_, o, ho, hc⟩ := hr Bx e.symm
      rw [hx] at ho
      cases ho
      cases hc
    · obtain ⟨_, o, ho, hc⟩ := hr Bc e.symm
      rw [hxc] at ho
      cases ho
      cases hc
  case assign =>
    rintro lp pre x W K ⟨⟨v, hO⟩, hB⟩ hK
    have hs := hB.size
    simp only [rnV, chV]
    gi_wp2
    refine hK _ _ (((KeepsOthers.alloc _ _).trans (KeepsOthers.alloc _ _)).from _) ((Kp.alloc (by omega) (by omega) _).trans (Kp.alloc (by simp; omega) (by simp; omega) _)) ⟨⟨v, (hO.alloc _).alloc _⟩, (hB.alloc (by omega) _).alloc (by simp; omega) _⟩ ⟨W.heap.size, W.heap.size + 1, (Below.heap_alloc _ _ _ (by simp)).trans (_root_.Go.heap_alloc_new W _), ?_, rfl⟩
    have := _root_.Go.heap_alloc_new (W.alloc (Obj.cells #[.int .i64 x.1.1.a, .int .i64 x.1.1.b, .int .i64 x.1.1.n] 59)) (Obj.cells #[.int .i64 x.1.2.A, .int .i64 x.1.2.AN, .int .i64 x.1.2.B, .int .i64 x.1.2.BN] 53)
    rw [World.size_alloc] at this
    exact this
  case body =>
    rintro lp pre x a' W hlp ⟨r, hr⟩ ⟨⟨v, hO⟩, hB⟩ ⟨Bx, Bc, hx, hxc, rfl⟩ hlt
    have hs := hB.size
    have hsw := hBw.size
    obtain ⟨q1, q2, q3, q4, q5, q6, q7, q8, q9, q10⟩ := x.2
    have hbnd := Nat.le_trans (pas_length A B pre) (Nat.mul_le_mul (show pre.length ≤ 1048576 by omega) (show A.length + B.length ≤ 2097152 by omega))
    obtain ⟨X, hX⟩ : ∃ X, (pre.flatMap fun x => pa A B x.1) = X := ⟨_, rfl⟩
    have HZ : Hid ((pre ++ [x]).flatMap (fun x => pa A B x.1) = X ++ cut A x.1.1.a x.1.1.n ++ cut B x.1.2.B x.1.2.BN) := (by show _ = _; rw [← hX]; simp [pa])
    rw [hX] at hO hbnd
    clear hX
    obtain ⟨tao, tc, rfl⟩ := Holds.form (holds_of hO.row)
    have hc := hO.box.cell
    have x0 : W.cell? ⟨Bx, 0, none⟩ = some (.int .i64 x.1.1.a) := by rw [Lib.cell_of_heap hx]; rfl
    have x2 : W.cell? ⟨Bx, 2, none⟩ = some (.int .i64 x.1.1.n) := by rw [Lib.cell_of_heap hx]; rfl
    have hBWw : Below w.heap.size w W := hBw.trans ((hB00.trans hB).mono hBw.size)
    have bA2 : Boxed W w.heap.size 22 (Value.slice aa A.length caa) := (hB.block _ (by omega)).trans ((hB00.block _ (by omega)).trans bA1)
    have bB2 : Boxed W (w.heap.size + 1) 22 (Value.slice ab B.length cab) := (hB.block _ (by omega)).trans ((hB00.block _ (by omega)).trans bB1)
    have cA2 := bA2.cell
    obtain ⟨vs, hvs, hsA⟩ := run_cut A aa caa x.1.1.a x.1.1.n q1 q3 q4 W0 haW
    obtain ⟨vo, vc, hvf⟩ := Holds.form (hsA _ haW)
    rw [hvf] at hvs hsA
    clear hvf
    obtain ⟨vsb, hvsb, hsB⟩ := run_cut B ab cab x.1.2.B x.1.2.BN q6 q7 q8 W0 hbW
    obtain ⟨vob, vcb, hvfb⟩ := Holds.form (hsB _ hbW)
    rw [hvfb] at hvsb hsB
    clear hvfb
    have hlA : (cut A x.1.1.a x.1.1.n).length ≤ 1048576 := by simp [cut]; omega
    have hlB : (cut B x.1.2.B x.1.2.BN).length ≤ 1048576 := by simp [cut]; omega
    have hj1 : x.1.1.a + x.1.1.n ≤ 9223372036854775807 := by omega
    have hj2 : x.1.2.B + x.1.2.BN ≤ 9223372036854775807 := by omega
    have hOd : OwnR w1.heap.size (w1.heap.size + 1 + 1) (w1.heap.size + 1) 22 9 1 (.slice tao X.length tc) X.length (scells X) W.drew := ⟨hO.box, hO.row, hO.far⟩
    gi_wp2
    refine wpIn_region_any (by kernel_rfl) ?_
    refine any10 (w := W.drew) (fun b => { tmps := #[.slice ao l.length ca, .slice aa A.length caa, .slice ab B.length cab, undef, .pointer (some ⟨w.heap.size, 0, none⟩), .pointer (some ⟨w.heap.size + 1, 0, none⟩), .slice none 0 0, .int .i64 0, .int .i64 0, .pointer (some ⟨w1.heap.size + 1, 0, none⟩), .pointer (some ⟨Bx, 0, none⟩), .pointer (some ⟨Bc, 0, none⟩), .slice ao l.length ca, .slice aa A.length caa, .int .i64 A.length, .slice ab B.length cab, .int .i64 B.length, .int .i64 0, .int .i64 0, .bool false, undef, .slice ab B.length cab, .int .i64 B.length, .slice (some ⟨w1.heap.size, 0, none⟩) 0 B.length, .slice ao l.length ca, .slice aa A.length caa, .int .i64 A.length, .slice ab B.length cab, .int .i64 B.length, .func (.func 43) #[] #[.pointer (some ⟨w1.heap.size + 1 + 1, 0, none⟩), .pointer (some ⟨w1.heap.size + 1 + 1 + 1, 0, none⟩), .pointer (some ⟨w1.heap.size + 1 + 1 + 1 + 1, 0, none⟩)], rnV x.1.1, chV x.1.2, pickV (b 0) (.slice tao X.length tc), pickV (b 1) (.slice aa A.length caa), pickV (b 2) (.pointer (some ⟨Bx, 0, none⟩)), pickV (b 3) (.int .i64 x.1.1.a), pickV (b 4) (.pointer (some ⟨Bx, 0, none⟩)), pickV (b 5) (.int .i64 x.1.1.a), pickV (b 6) (.pointer (some ⟨Bx, 2, none⟩)), pickV (b 7) (.int .i64 x.1.1.n), pickV (b 8) (.int .i64 (x.1.1.a + x.1.1.n)), pickV (b 9) (.slice vo (cut A x.1.1.a x.1.1.n).length vc), undef, undef, undef, undef, undef, undef, undef, undef, undef, undef, undef, undef, undef], defers := [] }) (chk_all (of_decide_eq_true (by kernel_rfl))) ?hstep8 ?hfin8
    case hstep8 =>
      rintro b ⟨i, hi⟩ hd K hK
      rcases (by omega : i = 0 ∨ i = 1 ∨ i = 2 ∨ i = 3 ∨ i = 4 ∨ i = 5 ∨ i = 6 ∨ i = 7 ∨ i = 8 ∨ i = 9) with rfl | rfl | rfl | rfl | rfl | rfl | rfl | rfl | rfl | rfl
      · refine wpOpIn_yield (v := .slice tao X.length tc) rfl rfl (fun _ h => by cases h) rfl ?_ hK
        go_simp
      · refine wpOpIn_yield (v := .slice aa A.length caa) rfl rfl (fun _ h => by cases h) rfl ?_ hK
        go_simp
      · refine wpOpIn_yield (v := .pointer (some ⟨Bx, 0, none⟩)) rfl rfl (fun _ h => by cases h) rfl ?_ hK
        go_simp
      · have e2 := pickV_true (hd 2 (by simp [deps])) (.pointer (some ⟨Bx, 0, none⟩))
        refine wpOpIn_yield (v := .int .i64 x.1.1.a) rfl rfl (fun _ h => by cases h) rfl ?_ hK
        go_simp
      · refine wpOpIn_yield (v := .pointer (some ⟨Bx, 0, none⟩)) rfl rfl (fun _ h => by cases h) rfl ?_ hK
        go_simp
      · have e4 := pickV_true (hd 4 (by simp [deps])) (.pointer (some ⟨Bx, 0, none⟩))
        refine wpOpIn_yield (v := .int .i64 x.1.1.a) rfl rfl (fun _ h => by cases h) rfl ?_ hK
        go_simp
      · refine wpOpIn_yield (v := .pointer (some ⟨Bx, 2, none⟩)) rfl rfl (fun _ h => by cases h) rfl ?_ hK
        go_simp
      · have e6 := pickV_true (hd 6 (by simp [deps])) (.pointer (some ⟨Bx, 2, none⟩))
        refine wpOpIn_yield (v := .int .i64 x.1.1.n) rfl rfl (fun _ h => by cases h) rfl ?_ hK
        go_simp
      · have e5 := pickV_true (hd 5 (by simp [deps])) (.int .i64 x.1.1.a)
        have e7 := pickV_true (hd 7 (by simp [deps])) (.int .i64 x.1.1.n)
        refine wpOpIn_yield (v := .int .i64 (x.1.1.a + x.1.1.n)) rfl rfl (fun _ h => by cases h) rfl ?_ hK
        go_simp
        exact wrap_small _ (by omega) (by omega)
      · have e1 := pickV_true (hd 1 (by simp [deps])) (.slice aa A.length caa)
        have e3 := pickV_true (hd 3 (by simp [deps])) (.int .i64 x.1.1.a)
        have e8 := pickV_true (hd 8 (by simp [deps])) (.int .i64 (x.1.1.a + x.1.1.n))
        refine wpOpIn_yield (v := .slice vo (cut A x.1.1.a x.1.1.n).length vc) rfl rfl (fun _ h => by cases h) rfl ?_ hK
        go_simp
    case hfin8 =>
      refine wpOpIn_append_h W.drew rfl rfl (.tmp 32) (.tmp 41) 22 9 rfl (.string ⟨#[]⟩) 1 16 Tryz.underlying22 infoStr rfl (by decide) (by decide) w1.heap.size (.slice tao X.length tc) _ _ rfl hOd.row (.slice vo (cut A x.1.1.a x.1.1.n).length vc) (cut A x.1.1.a x.1.1.n).length (scells (cut A x.1.1.a x.1.1.n)) rfl (hsA _ (HS.keep (HS.keep ha hBWw (Nat.le_refl _)) (Below.dN (Below.refl W.heap.size W) 1) (Nat.le_refl _))) (by rw [scells_length, Nat.mul_one]) (scells_one _) (by omega) (by show _ ≤ W.heap.size; omega) ?_
      intro v' u1 hown' hgrow hp
      obtain ⟨hv1, hO3, hk2, hp2, hal⟩ := hOd.appended (by decide) (by decide) (by decide) (by omega) (by omega) (by show _ ≤ W.heap.size; omega) hown' hgrow hp
      rw [← scells_append] at hO3
      have hvf := (holds_of hown').form
      obtain ⟨to2, tc2, rfl⟩ := hvf
      have hc1 := hv1.cell
      have hf1 := hv1.frozen
      refine wpAnyIn_ready (rs := [11]) (by kernel_rfl) (by simp) (AllReadyIn.cons rfl (fun K hK => ?_) AllReadyIn.nil)
      go_simp
      refine hK _ _ ⟨by kernel_rfl, ?_⟩
      obtain ⟨W2, hW2⟩ : ∃ W2, u1.setCell ⟨w1.heap.size + 1, 0, none⟩ (.slice to2 (X.length + (cut A x.1.1.a x.1.1.n).length) tc2) = W2 := ⟨_, rfl⟩
      rw [hW2] at hO3 hk2 hp2 hal ⊢
      clear hW2 hv1 hc1 hf1 hgrow hp hown'
      have hkp2 : Kp w1.heap.size (w1.heap.size + 1 + 1) W W2 := (Kp.drewN W 1).trans hp2
      have hko2 : KeepsOthers W W2 := (KeepsOthers.drew W).trans hk2
      have hs2 := hkp2.low.size
      have hln : (X ++ cut A x.1.1.a x.1.1.n).length = X.length + (cut A x.1.1.a x.1.1.n).length := by simp
      have hxc2 : W2.heap[Bc]? = _ := hkp2.chg _ _ hxc
      have y2 : W2.cell? ⟨Bc, 2, none⟩ = some (.int .i64 x.1.2.B) := by rw [Lib.cell_of_heap hxc2]; rfl
      have y3 : W2.cell? ⟨Bc, 3, none⟩ = some (.int .i64 x.1.2.BN) := by rw [Lib.cell_of_heap hxc2]; rfl
      have bB3 : Boxed W2 (w.heap.size + 1) 22 (Value.slice ab B.length cab) := (hkp2.low.block _ (by omega)).trans bB2
      have cB3 := bB3.cell
      have hcT := hO3.box.cell
      have hBWw2 : Below w.heap.size w W2 := hBWw.trans (hkp2.low.mono (by omega))
      have hOd2 : OwnR w1.heap.size (w1.heap.size + 1 + 1) (w1.heap.size + 1) 22 9 1 (.slice to2 (X.length + (cut A x.1.1.a x.1.1.n).length) tc2) (X.length + (cut A x.1.1.a x.1.1.n).length) (scells (X ++ cut A x.1.1.a x.1.1.n)) W2.drew := ⟨hO3.box, hO3.row, hO3.far⟩
      clear hc x0 x2 cA2 hal
      gi_wp2
      refine wpIn_region_any (by kernel_rfl) ?_
      refine any10 (w := W2.drew) (fun b => { tmps := #[.slice ao l.length ca, .slice aa A.length caa, .slice ab B.length cab, undef, .pointer (some ⟨w.heap.size, 0, none⟩), .pointer (some ⟨w.heap.size + 1, 0, none⟩), .slice none 0 0, .int .i64 0, .int .i64 0, .pointer (some ⟨w1.heap.size + 1, 0, none⟩), .pointer (some ⟨Bx, 0, none⟩), .pointer (some ⟨Bc, 0, none⟩), .slice ao l.length ca, .slice aa A.length caa, .int .i64 A.length, .slice ab B.length cab, .int .i64 B.length, .int .i64 0, .int .i64 0, .bool false, undef, .slice ab B.length cab, .int .i64 B.length, .slice (some ⟨w1.heap.size, 0, none⟩) 0 B.length, .slice ao l.length ca, .slice aa A.length caa, .int .i64 A.length, .slice ab B.length cab, .int .i64 B.length, .func (.func 43) #[] #[.pointer (some ⟨w1.heap.size + 1 + 1, 0, none⟩), .pointer (some ⟨w1.heap.size + 1 + 1 + 1, 0, none⟩), .pointer (some ⟨w1.heap.size + 1 + 1 + 1 + 1, 0, none⟩)], rnV x.1.1, chV x.1.2, (.slice tao X.length tc), (.slice aa A.length caa), (.pointer (some ⟨Bx, 0, none⟩)), (.int .i64 x.1.1.a), (.pointer (some ⟨Bx, 0, none⟩)), (.int .i64 x.1.1.a), (.pointer (some ⟨Bx, 2, none⟩)), (.int .i64 x.1.1.n), (.int .i64 (x.1.1.a + x.1.1.n)), (.slice vo (cut A x.1.1.a x.1.1.n).length vc), .slice to2 (X.length + (cut A x.1.1.a x.1.1.n).length) tc2, pickV (b 0) (.slice to2 (X.length + (cut A x.1.1.a x.1.1.n).length) tc2), pickV (b 1) (.slice ab B.length cab), pickV (b 2) (.pointer (some ⟨Bc, 2, none⟩)), pickV (b 3) (.int .i64 x.1.2.B), pickV (b 4) (.pointer (some ⟨Bc, 2, none⟩)), pickV (b 5) (.int .i64 x.1.2.B), pickV (b 6) (.pointer (some ⟨Bc, 3, none⟩)), pickV (b 7) (.int .i64 x.1.2.BN), pickV (b 8) (.int .i64 (x.1.2.B + x.1.2.BN)), pickV (b 9) (.slice vob (cut B x.1.2.B x.1.2.BN).length vcb), undef, undef], defers := [] }) (chk_all (of_decide_eq_true (by kernel_rfl))) ?hstep9 ?hfin9
      case hstep9 =>
        rintro b ⟨i, hi⟩ hd K hK
        rcases (by omega : i = 0 ∨ i = 1 ∨ i = 2 ∨ i = 3 ∨ i = 4 ∨ i = 5 ∨ i = 6 ∨ i = 7 ∨ i = 8 ∨ i = 9) with rfl | rfl | rfl | rfl | rfl | rfl | rfl | rfl | rfl | rfl
        · refine wpOpIn_yield (v := .slice to2 (X.length + (cut A x.1.1.a x.1.1.n).length) tc2) rfl rfl (fun _ h => by cases h) rfl ?_ hK
          go_simp
        · refine wpOpIn_yield (v := .slice ab B.length cab) rfl rfl (fun _ h => by cases h) rfl ?_ hK
          go_simp
        · refine wpOpIn_yield (v := .pointer (some ⟨Bc, 2, none⟩)) rfl rfl (fun _ h => by cases h) rfl ?_ hK
          go_simp
        · have e2 := pickV_true (hd 2 (by simp [deps])) (.pointer (some ⟨Bc, 2, none⟩))
          refine wpOpIn_yield (v := .int .i64 x.1.2.B) rfl rfl (fun _ h => by cases h) rfl ?_ hK
          go_simp
        · refine wpOpIn_yield (v := .pointer (some ⟨Bc, 2, none⟩)) rfl rfl (fun _ h => by cases h) rfl ?_ hK
          go_simp
        · have e4 := pickV_true (hd 4 (by simp [deps])) (.pointer (some ⟨Bc, 2, none⟩))
          refine wpOpIn_yield (v := .int .i64 x.1.2.B) rfl rfl (fun _ h => by cases h) rfl ?_ hK
          go_simp
        · refine wpOpIn_yield (v := .pointer (some ⟨Bc, 3, none⟩)) rfl rfl (fun _ h => by cases h) rfl ?_ hK
          go_simp
        · have e6 := pickV_true (hd 6 (by simp [deps])) (.pointer (some ⟨Bc, 3, none⟩))
          refine wpOpIn_yield (v := .int .i64 x.1.2.BN) rfl rfl (fun _ h => by cases h) rfl ?_ hK
          go_simp
        · have e5 := pickV_true (hd 5 (by simp [deps])) (.int .i64 x.1.2.B)
          have e7 := pickV_true (hd 7 (by simp [deps])) (.int .i64 x.1.2.BN)
          refine wpOpIn_yield (v := .int .i64 (x.1.2.B + x.1.2.BN)) rfl rfl (fun _ h => by cases h) rfl ?_ hK
          go_simp
          exact wrap_small _ (by omega) (by omega)
        · have e1 := pickV_true (hd 1 (by simp [deps])) (.slice ab B.length cab)
          have e3 := pickV_true (hd 3 (by simp [deps])) (.int .i64 x.1.2.B)
          have e8 := pickV_true (hd 8 (by simp [deps])) (.int .i64 (x.1.2.B + x.1.2.BN))
          refine wpOpIn_yield (v := .slice vob (cut B x.1.2.B x.1.2.BN).length vcb) rfl rfl (fun _ h => by cases h) rfl ?_ hK
          go_simp
      case hfin9 =>
        refine wpOpIn_append_h W2.drew rfl rfl (.tmp 43) (.tmp 52) 22 9 rfl (.string ⟨#[]⟩) 1 16 Tryz.underlying22 infoStr rfl (by decide) (by decide) w1.heap.size (.slice to2 (X.length + (cut A x.1.1.a x.1.1.n).length) tc2) _ _ rfl hOd2.row (.slice vob (cut B x.1.2.B x.1.2.BN).length vcb) (cut B x.1.2.B x.1.2.BN).length (scells (cut B x.1.2.B x.1.2.BN)) rfl (hsB _ (HS.keep (HS.keep hb hBWw2 (Nat.le_refl _)) (Below.dN (Below.refl W2.heap.size W2) 1) (Nat.le_refl _))) (by rw [scells_length, Nat.mul_one]) (scells_one _) (by omega) (by show _ ≤ W2.heap.size; omega) ?_
        intro v' u1 hown' hgrow hp
        obtain ⟨hv1, hO4, hk3, hp3, hal⟩ := hOd2.appended (by decide) (by decide) (by decide) (by omega) (by omega) (by show _ ≤ W2.heap.size; omega) hown' hgrow hp
        rw [← scells_append] at hO4
        obtain ⟨to3, tc3, rfl⟩ := (holds_of hown').form
        have hc1 := hv1.cell
        have hf1 := hv1.frozen
        refine wpAnyIn_ready (rs := [11]) (by kernel_rfl) (by simp) (AllReadyIn.cons rfl (fun K hK => ?_) AllReadyIn.nil)
        go_simp
        refine hK _ _ ⟨by kernel_rfl, ?_⟩
        have hkp3 := hkp2.trans ((Kp.drewN W2 1).trans hp3)
        have hko3 := hko2.trans ((KeepsOthers.drew W2).trans hk3)
        have hln2 : (X ++ cut A x.1.1.a x.1.1.n ++ cut B x.1.2.B x.1.2.BN).length = X.length + (cut A x.1.1.a x.1.1.n).length + (cut B x.1.2.B x.1.2.BN).length := by simp [Nat.add_assoc]
        have hO5 : OwnR w1.heap.size (w1.heap.size + 1 + 1) (w1.heap.size + 1) 22 9 1 (.slice to3 (X.length + (cut A x.1.1.a x.1.1.n).length + (cut B x.1.2.B x.1.2.BN).length) tc3) ((pre ++ [x]).flatMap fun x => pa A B x.1).length (scells ((pre ++ [x]).flatMap fun x => pa A B x.1)) (u1.setCell ⟨w1.heap.size + 1, 0, none⟩ (.slice to3 (X.length + (cut A x.1.1.a x.1.1.n).length + (cut B x.1.2.B x.1.2.BN).length) tc3)) := by
          rw [HZ.out, hln2]
          exact hO4
        gi_wp2
        exact ⟨hko3.from _, hkp3, ⟨_, hO5⟩, hB.trans hkp3.low⟩
  case done =>
    rintro D ys W hD hys ⟨⟨v, hO⟩, hB⟩ hK
    have hc := hO.box.cell
    gi_wp2
    refine ⟨by simp, .inl ⟨_, _, rfl, run_takeDeferred hK, ?_⟩⟩
    have hfm : (ys.flatMap fun x => pa A B x.1) = applyL l A B := by
      unfold applyL
      rw [← hys, List.flatMap_map]
    have hrw := ownsRow_putObj hO.row (Obj.deferred none) hK rfl
    rw [hfm] at hrw
    refine ⟨_, results_tmp2 rfl _ _ _, v, rfl, ?_, hBw.trans (Below.mono ((hB00.trans hB).trans (belowK_b (w := w1) (Nat.le_refl _) W D _ _ (by omega) hK rfl rfl)) hBw.size)⟩
    have hws := hBw.size
    rcases hrw.2 with h | ⟨g, cap, cur, r1, r2, r3⟩
    · exact ⟨hrw.1, .inl h⟩
    · exact ⟨hrw.1, .inr ⟨g, cap, cur, r1, by omega, r3⟩⟩
  case stop =>
    rintro D c pre W _ _ h _
    exact h.elim
end Go.Proofs.YtjhanfiohfakoaaGreatDoor

/- Invert and the law's own helper taken, walked. -/
set_option maxRecDepth 20000
namespace Go.Proofs.YtjhanfiohfakoaaGreatDoor
open Go.RowKit

theorem run_makeC (N : Nat) (hN : N ≤ 1099511627776) (W : World) :
    (Instr.makeSlice 25 (.int .i64 (N : Int)) (.int .i64 (N : Int))).run Tryz.prog W = .ok (.slice (some ⟨W.heap.size, 0, none⟩) N N) (W.alloc (.cells (madeCells #[.int .i64 0, .int .i64 0, .int .i64 0, .int .i64 0] (N * 4)) 53)) := by
  obtain ⟨i0, hi, hz0, hzs, hz2⟩ := info_parts infoCh
  have h1 : i0.bytes * N ≤ 32 * 1099511627776 := by rw [hz2]; exact Nat.mul_le_mul_left _ hN
  have hr := run_make (P := Tryz.prog) W 25 53 i0 _ Tryz.underlying25 hi hz0 .i64 .i64 (N : Int) (N : Int) (by omega) (Int.le_refl _) (by
    have : ((i0.bytes * N : Nat) : Int) ≤ 281474976710656 := by omega
    rwa [Int.natCast_mul] at this) (by omega)
  simpa [hzs, Value.cells] using hr

theorem set4 (Y : List Value) (n : Nat) (a b c d : Value) (h : n + 4 ≤ Y.length) : ((((Y.set n a).set (n + 1) b).set (n + 2) c).set (n + 3) d).take (n + 4) = Y.take n ++ [a, b, c, d] := by
  obtain ⟨P, D, rfl, hP⟩ : ∃ P D, Y = P ++ D ∧ P.length = n := ⟨Y.take n, Y.drop n, (List.take_append_drop n Y).symm, by simp; omega⟩
  subst hP
  match D, h with
  | y0 :: y1 :: y2 :: y3 :: R, _ =>
    simp [List.take_append]
    exact List.take_of_length_le (by omega)
  | [], h => simp at h; omega
  | [_], h => simp at h
  | [_, _], h => simp at h
  | [_, _, _], h => simp at h

set_option maxRecDepth 10000 in
set_option maxHeartbeats 1000000 in
theorem Invert_f (l L : List Ch) (v : Value) (w : World) (hl : HCh w v l) (hlen : l.length ≤ 1048576) (hL : Hid (invL l = L)) :
    Calls Tryz.prog 17 #[v] w fun e w' => ∃ v', e = .returned v' ∧ HCh w' v' L ∧ Below w.heap.size w w' := by
  obtain ⟨ao, ca, rfl⟩ := Holds.form hl
  have hmk := run_makeC l.length (by omega)
  have hrow : (w.alloc (.cells (madeCells #[.int .i64 0, .int .i64 0, .int .i64 0, .int .i64 0] (l.length * 4)) 53)).ownsRow w.heap.size 53 4 (.slice (some ⟨w.heap.size, 0, none⟩) l.length l.length) l.length (madeCells #[.int .i64 0, .int .i64 0, .int .i64 0, .int .i64 0] (l.length * 4)).toList := World.ownsRow_lit w _ l.length (Nat.le_refl _) (by unfold maxLen; omega) (size_madeCells _ _)
  go_enter Tryz.func17, Tryz.ntmps17
  go_wp2
  go_loopw [11] (fun iv wr => ∃ (k : Nat) (Y : List Value), k ≤ l.length ∧ iv = .int .i64 k ∧ Below w.heap.size w wr ∧ wr.ownsRow w.heap.size 53 4 (.slice (some ⟨w.heap.size, 0, none⟩) l.length l.length) l.length Y ∧ Hid (Y.take (k * 4) = chcells (invL (l.take k)))) (fun iv _ => l.length - (intOf iv).toNat)
  case atStart => exact ⟨0, _, Nat.zero_le _, rfl, (Below.refl _ w).alloc (Nat.le_refl _) _, hrow, (by show _ = _; simp [invL, chcells])⟩
  case round =>
    obtain ⟨k, Y, hk, rfl, hB, hO, hR⟩ := hrel
    have hsz := hB.size
    by_cases hlt : k < l.length
    · obtain ⟨bk, off, rfl, hbk, hc⟩ := HCh.at (HCh.keep hl hB (Nat.le_refl _)) (by omega)
      obtain ⟨c0, c1, c2, c3⟩ := hc k hlt
      obtain ⟨c, hcd⟩ : ∃ c, l[k] = c := ⟨_, rfl⟩
      rw [hcd] at c0 c1 c2 c3
      have HC : Hid (l[k] = c) := hcd
      clear hc hcd
      obtain ⟨A, AN, B, BN⟩ := c
      dsimp only at c0 c1 c2 c3
      have i1 : 0 ≤ (k : Int) := by omega
      have i2 : (k : Int) < (l.length : Int) := by omega
      have hO2 := hO.alloc (Obj.cells #[Value.int IntKind.i64 A, Value.int IntKind.i64 AN, Value.int IntKind.i64 B, Value.int IntKind.i64 BN] 53)
      have hyl : Y.length = l.length * 4 := hO.1
      have y0 := hO2.cellAt (k * 4) (by omega)
      have y1 := hO2.cellAt (k * 4 + 1) (by omega)
      have y2 := hO2.cellAt (k * 4 + 2) (by omega)
      have y3 := hO2.cellAt (k * 4 + 3) (by omega)
      rw [List.getElem?_eq_getElem (by omega)] at y0 y1 y2 y3
      have f0 := hO2.frozenAt (k * 4)
      have f1 := hO2.frozenAt (k * 4 + 1)
      have f2 := hO2.frozenAt (k * 4 + 2)
      have f3 := hO2.frozenAt (k * 4 + 3)
      obtain ⟨z0, hz0⟩ : ∃ z, Y[k * 4] = z := ⟨_, rfl⟩
      obtain ⟨z1, hz1⟩ : ∃ z, Y[k * 4 + 1] = z := ⟨_, rfl⟩
      obtain ⟨z2, hz2⟩ : ∃ z, Y[k * 4 + 2] = z := ⟨_, rfl⟩
      obtain ⟨z3, hz3⟩ : ∃ z, Y[k * 4 + 3] = z := ⟨_, rfl⟩
      rw [hz0] at y0
      rw [hz1] at y1
      rw [hz2] at y2
      rw [hz3] at y3
      clear hz0 hz1 hz2 hz3
      have HY : Hid (k * 4 + 4 ≤ Y.length) := (by show _ ≤ _; omega)
      clear hyl
      obtain ⟨p1, g1⟩ := hO2.stored (k * 4) (.int .i64 B)
      obtain ⟨p2, g2⟩ := p1.stored (k * 4 + 1) (.int .i64 BN)
      obtain ⟨p3, g3⟩ := p2.stored (k * 4 + 2) (.int .i64 A)
      obtain ⟨p4, g4⟩ := p3.stored (k * 4 + 3) (.int .i64 AN)
      have hB1 := (hB.alloc (by omega) (Obj.cells #[Value.int IntKind.i64 A, Value.int IntKind.i64 AN, Value.int IntKind.i64 B, Value.int IntKind.i64 BN] 53)).grown g1 (by simp; omega) (fun j hj => by cases hj; exact Nat.le_refl _)
      have hB2 := hB1.grown g2 hB1.size (fun j hj => by cases hj; exact Nat.le_refl _)
      have hB3 := hB2.grown g3 hB2.size (fun j hj => by cases hj; exact Nat.le_refl _)
      have hB4 := hB3.grown g4 hB3.size (fun j hj => by cases hj; exact Nat.le_refl _)
      clear g1 g2 g3 g4 p1 p2 p3 hB1 hB2 hB3
      go_wp2
      refine ⟨⟨k + 1, _, by omega, by go_num, hB4, p4, (by
        show _ = _
        rw [show (k + 1) * 4 = k * 4 + 4 by omega, set4 _ _ _ _ _ _ HY.out, hR.out, List.take_succ_eq_append_getElem hlt, HC.out]
        simp [invL, chcells, chC, inv])⟩, by simp [intOf]; omega⟩
    · go_wp2
      go_ret
      refine ⟨_, rfl, ?_, hB⟩
      have h := hR.out
      rw [List.take_of_length_le (by have := hO.1; omega), List.take_of_length_le (by omega), hL.out] at h
      have hLl : L.length = l.length := by rw [← hL.out]; simp [invL]
      have := holds_of hO
      rw [h] at this
      unfold HCh
      rw [hLl]
      exact this
end Go.Proofs.YtjhanfiohfakoaaGreatDoor
