/-
  The walk of the law CanonOrder: whatever the texts and whatever is ignored, it returns true.
-/
import Derived.Test.YtdoennggmckldaaDoorCnEqual
import Derived.Deep.CutBlock
namespace Go.Proofs.YtdoennggmckldaaDoor.canonOrder
open Go.RowKit
open Cn
attribute [local go_sem] ba_at ByteArray.extract_mk ba_cat
attribute [local simp] stay_drew

theorem Equal_val (x y : List UInt8) (o : Ig) (v : Bool) (w : World) (hx : x.length ≤ 137438953472) (hy : y.length ≤ 137438953472) (hv : Hid (eqL o x y = v)) :
    Calls Tryd.prog 11 #[.string ⟨x.toArray⟩, .string ⟨y.toArray⟩, igV o] w fun e w' => e = .returned (.bool v) ∧ Below w.heap.size w w' := by
  rw [← hv.out]
  exact Equal_any x y o w hx hy

theorem eq_self (o : Ig) (a : List UInt8) : eqL o a a = true := beq_self_eq_true _
theorem eq_turn (o : Ig) (a b : List UInt8) : eqL o b a = eqL o a b := by
  unfold eqL
  rw [Bool.eq_iff_iff, beq_iff_eq, beq_iff_eq]
  exact eq_comm
theorem eq_chain {o : Ig} {a b c : List UInt8} (h1 : eqL o a b = true) (h2 : eqL o b c = true) : eqL o a c = true := by
  unfold eqL at *
  rw [beq_iff_eq] at *
  rw [h1, h2]

/-- what was told ahead of a round -/
def wasL (o : Ig) (a b : List UInt8) : Nat → Bool
  | 0 => eqL (o0 o) a b
  | k + 1 => eqL (ok o k) a b
theorem grows {o : Ig} {a b : List UInt8} {k : Nat} (hk : k < 4) (h : wasL o a b k = true) : eqL (ok o k) a b = true := by
  have e : ∀ {x y : List UInt8}, (x == y) = true ↔ x = y := beq_iff_eq
  match k, hk with
  | 0, _ => rw [ok0]; exact h
  | 1, _ => exact e.2 (up1 o (by rw [← ok0]; exact e.1 h))
  | 2, _ => exact e.2 (up2 o (e.1 h))
  | 3, _ => exact e.2 (up3 o (e.1 h))
theorem cased {o : Ig} {a b : List UInt8} (h : eqL o a b = true) : eqL { o with cs := true } a b = true := beq_iff_eq.2 (case_up o (beq_iff_eq.1 h))


theorem box_set {b : Nat} {w : World} {C : Array Value} (h : w.heap[b]? = some (.cells C 23 (0, 0))) (j : Nat) (v : Value) : (w.setCell ⟨b, j, none⟩ v).heap[b]? = some (.cells (C.setIfInBounds j v) 23 (0, 0)) := by
  simp only [World.setCell, Array.getElem?_modify, h]
  simp
/-- nothing of white space is ignored any more -/
theorem stay_off {o : Ig} {W w : World} (h : Stay o W.heap.size W w) : Stay (o0 o) W.heap.size W (((w.setCell ⟨W.heap.size, 5, none⟩ (.bool false)).setCell ⟨W.heap.size, 0, none⟩ (.bool false)).setCell ⟨W.heap.size, 1, none⟩ (.bool false)) :=
  ⟨box_set (box_set (box_set h.box 5 _) 0 _) 1 _, ((h.low.setCell (p := ⟨W.heap.size, 5, none⟩) (Nat.le_refl _) _).setCell (p := ⟨W.heap.size, 0, none⟩) (Nat.le_refl _) _).setCell (p := ⟨W.heap.size, 1, none⟩) (Nat.le_refl _) _⟩

/-- a new variable of what is ignored, behind a call -/
theorem made {o : Ig} {w w' : World} (hb : Below (w.alloc (.cells #[.bool o.sp, .bool o.wt, .bool o.bl, .bool o.cs, .bool o.tb, .bool o.tr] 23)).heap.size (w.alloc (.cells #[.bool o.sp, .bool o.wt, .bool o.bl, .bool o.cs, .bool o.tb, .bool o.tr] 23)) w') : Boxed o w.heap.size w' ∧ Below w.heap.size w w' :=
  ⟨(Boxed.fresh o w).keep hb, ((Below.refl _ w).alloc (Nat.le_refl _) _).trans (hb.mono (by simp))⟩

/-- a variable of what is ignored is read as a whole -/
theorem load_ig {o : Ig} {b : Nat} {w : World} (h : Boxed o b w) {op : Oper} (x : Operand) (ho : op.op = .load 23 x) {ev : Operand → Value} (hx : ev x = .pointer (some ⟨b, 0, none⟩)) :
    (execOp ev op).run Tryd.prog w = .ok (.value (igV o)) w := by
  obtain ⟨d0, d1, d2, d3, d4, d5⟩ := h.cells
  simp only [execOp, ho, hx, igV]
  go_simp

theorem enters : ∀ args w, (callFunc 11 args).run Tryd.prog w = .ok (.enter 11 args) w := enters_of Tryd.func11 (by kernel_rfl) rfl

/-- an operation whose guard wants it, and one whose guard does not -/
theorem step_want {b : Bool} {X Y : Prop} (h : b = true) (hX : X) : if b = true then X else Y := by
  rw [if_pos h]
  exact hX
theorem step_none {b : Bool} {X Y : Prop} (h : b = false) (hY : Y) : if b = true then X else Y := by
  rw [if_neg (by rw [h]; exact Bool.false_ne_true)]
  exact hY

/-- a call of Equal, as one step of a region that draws its order -/
theorem step_equal {op : Oper} {A : Act} {w : World} {K : Act → World → Prop} {Q : Exit → Act → World → Prop} {o : Ig} {b : Nat} {W : World}
    (x y z : Operand) (ts : Array TypeId) (ho : op.op = .call { callee := .value (.func 11), args := #[x, y, z], argTypes := ts })
    (X Y : List UInt8) (v : Bool) (hx : A.eval x = .string ⟨X.toArray⟩) (hy : A.eval y = .string ⟨Y.toArray⟩) (hz : A.eval z = igV o) (hX : X.length ≤ 137438953472) (hY : Y.length ≤ 137438953472) (hv : Hid (eqL o X Y = v)) (hS : Stay o b W w)
    (hK : ∀ w', Stay o b W w' → K (A.put op.dst (.bool v)) w') :
    Oper.wp Tryd.prog op A w K Q := by
  unfold Oper.wp
  have e : (execOp A.eval op).run Tryd.prog w = .ok (.enter 11 #[.string ⟨X.toArray⟩, .string ⟨Y.toArray⟩, igV o]) w := by
    have h1 := enters #[.string ⟨X.toArray⟩, .string ⟨Y.toArray⟩, igV o] w
    simp only [execOp, ho, resolve, invoke]
    have h2 : A.eval (.func 11) = .func (.func 11) #[] #[] := rfl
    simp only [h2, Deferred.ofValue, Sem.run_bind, Sem.run_pure, Result.andThen_ok, List.map_toArray, List.map_cons, List.map_nil, hx, hy, hz, Array.append_empty]
    exact h1
  rw [e, Oper.upon_enter]
  refine (Equal_val X Y o v w hX hY hv).mono ?_
  rintro e w' ⟨rfl, hb⟩
  exact hK w' (hS.keep hb)

/-- the same, from one stage of the region to the next -/
theorem go_equal {md : Region.Mode} {ops : Array Oper} {Q : Exit → Act → World → Prop} {fuel : Nat} {listed : Array Bool} {A : Act} {w : World} {o : Ig} {b : Nat} {W : World}
    (i d : Nat) (op : Oper) (hi : ops[i]? = some op) (hd : op.dst = some d) (hr : Region.ready md ops listed = [i]) (hwt : Region.wanted op (yielded ops A.tmps) = true)
    (x y z : Operand) (ts : Array TypeId) (ho : op.op = .call { callee := .value (.func 11), args := #[x, y, z], argTypes := ts })
    (X Y : List UInt8) (v : Bool) (hx : A.eval x = .string ⟨X.toArray⟩) (hy : A.eval y = .string ⟨Y.toArray⟩) (hz : A.eval z = igV o) (hX : X.length ≤ 137438953472) (hY : Y.length ≤ 137438953472) (hv : Hid (eqL o X Y = v)) (hS : Stay o b W w)
    (h : ∀ w', Stay o b W w' → wpAnyH Tryd.prog md ops Q (fun w' => Stay o b W w') fuel (listed.setIfInBounds i true) (A.put (some d) (.bool v)) w') :
    wpAnyH Tryd.prog md ops Q (fun w' => Stay o b W w') (fuel + 1) listed A w := by
  refine wpAnyH_ready hr (by simp) (AllReadyH.cons hi (fun K hK => ?_) AllReadyH.nil)
  refine step_want hwt ?_
  exact step_equal x y z ts ho X Y v hx hy hz hX hY hv hS (fun u hu => hK.out _ _ hu (fun hu => by rw [hd]; exact h u hu))
/-- an operation that reads alone, from one stage of the region to the next -/
theorem go_take {P : Program} {S : World → Prop} {md : Region.Mode} {ops : Array Oper} {Q : Exit → Act → World → Prop} {fuel : Nat} {listed : Array Bool} {A : Act} {w : World}
    (i d : Nat) (op : Oper) (v : Value) (hi : ops[i]? = some op) (hd : op.dst = some d) (hs : Region.noSelect ops = true) (hf : Region.free md ops listed i = true) (hr : (Region.ready md ops listed).contains i = true)
    (hQ : ∀ c a w, Q (.panic c) (a.put op.dst v) w → Q (.panic c) a w) (hy : YieldsIf P ops S op v A) (hS : S w)
    (h : wpAnyH P md ops Q S fuel (listed.setIfInBounds i true) (A.put (some d) v) w) : wpAnyH P md ops Q S (fuel + 1) listed A w :=
  wpAnyH_take hi hs hf hr hQ hy hS (by rw [hd]; exact h)
/-- an operation that is not wanted, from one stage of the region to the next -/
theorem go_none {P : Program} {S : World → Prop} {md : Region.Mode} {ops : Array Oper} {Q : Exit → Act → World → Prop} {fuel : Nat} {listed : Array Bool} {A : Act} {w : World}
    (i d : Nat) (op : Oper) (hi : ops[i]? = some op) (hd : op.dst = some d) (hr : Region.ready md ops listed = [i]) (hwt : Region.wanted op (yielded ops A.tmps) = false) (hS : S w)
    (h : wpAnyH P md ops Q S fuel (listed.setIfInBounds i true) (A.put (some d) undef) w) :
    wpAnyH P md ops Q S (fuel + 1) listed A w := by
  refine wpAnyH_ready hr (by simp) (AllReadyH.cons hi (fun K hK => ?_) AllReadyH.nil)
  refine step_none hwt ?_
  exact hK.out _ _ hS (fun _ => by rw [hd]; exact h)
end Go.Proofs.YtdoennggmckldaaDoor.canonOrder
