/-
  Texts that belong together, joined: EdReg, EdApp, EdSameS, EdRApp, HuC8, HuC9, HuMk, HuCa, NoTab, EdOpen, EdOpenS.
-/
import Derived.Test.YtiiihoejpmjfeaaDoorPartA3
import Derived.Test.YtiiihoejpmjfeaaDoorPartA4
import Derived.Test.YtiiihoejpmjfeaaDoorPartA2
import Derived.Test.YtiiihoejpmjfeaaDoorRows
import Derived.WalkKit
import Derived.ProofKit
import Derived.Deep.DeepHandedRow
import Derived.Lib.ItoaNum
import Derived.Lib.LaidTab
import Derived.LaidSub
import Derived.Test.YtiiihoejpmjfeaaDoorChecked
import Derived.Test.YtiiihoejpmjfeaaDoorPartA1
import Derived.OpenShut
import Derived.ShutString
import Derived.ChangeOld
import Derived.Below
import Derived.SliceStrings
import Derived.ChangeSlices
import Derived.Deep.Slices
import Derived.Deep.SlicePairs
import Derived.JoinedCond

/- A region that draws its order, in a round: ten operations that read, in whatever order, then the rest as the text has it. -/
namespace Go.Proofs.YtiiihoejpmjfeaaDoor
open Go.RowKit Go.Shelf
namespace R10

abbrev B10 := Fin 10 → Bool
def lst (b : B10) : Array Bool := #[b 0, b 1, b 2, b 3, b 4, b 5, b 6, b 7, b 8, b 9, false, false]
def upd (b : B10) (i : Fin 10) : B10 := fun j => if j = i then true else b j
def one (c : Bool) : Nat := if c then 1 else 0
def cnt (b : B10) : Nat := one (b 0) + one (b 1) + one (b 2) + one (b 3) + one (b 4) + one (b 5) + one (b 6) + one (b 7) + one (b 8) + one (b 9)
theorem lst_upd (b : B10) (i : Fin 10) : (lst b).setIfInBounds i.1 true = lst (upd b i) := by
  rcases i with ⟨i, hi⟩
  rcases (by omega : i = 0 ∨ i = 1 ∨ i = 2 ∨ i = 3 ∨ i = 4 ∨ i = 5 ∨ i = 6 ∨ i = 7 ∨ i = 8 ∨ i = 9) with rfl | rfl | rfl | rfl | rfl | rfl | rfl | rfl | rfl | rfl <;> simp [lst, upd]
theorem cnt_upd (b : B10) (i : Fin 10) (h : b i = false) : cnt (upd b i) = cnt b + 1 := by
  rcases i with ⟨i, hi⟩
  rcases (by omega : i = 0 ∨ i = 1 ∨ i = 2 ∨ i = 3 ∨ i = 4 ∨ i = 5 ∨ i = 6 ∨ i = 7 ∨ i = 8 ∨ i = 9) with rfl | rfl | rfl | rfl | rfl | rfl | rfl | rfl | rfl | rfl <;> (simp only [Fin.isValue, Fin.mk_zero, Fin.mk_one, Fin.reduceFinMk] at h; simp [cnt, upd, one, h]; try omega)
theorem one_le (c : Bool) : one c ≤ 1 := by cases c <;> simp [one]
theorem cnt_le (b : B10) : cnt b ≤ 10 := by
  have := fun i => one_le (b i)
  have h0 := this 0; have h1 := this 1; have h2 := this 2; have h3 := this 3; have h4 := this 4; have h5 := this 5; have h6 := this 6; have h7 := this 7; have h8 := this 8; have h9 := this 9
  unfold cnt
  omega

/-- which reads must lie ahead of one -/
def deps : Fin 10 → List (Fin 10)
  | 3 => [2]
  | 5 => [4]
  | 7 => [6]
  | 8 => [5, 7]
  | 9 => [1, 3, 8]
  | _ => []

/-- what lies ahead of a read that has come has come -/
def closedB (b : B10) : Bool := (List.finRange 10).all fun i => !(b i) || (deps i).all b
theorem closed_upd (b : B10) (i : Fin 10) (h : closedB b = true) (hd : ∀ j ∈ deps i, b j = true) : closedB (upd b i) = true := by
  simp only [closedB, List.all_eq_true, List.mem_finRange, Bool.or_eq_true, Bool.not_eq_true', forall_const] at h ⊢
  intro k
  have hup : ∀ j, b j = true → upd b i j = true := fun j hj => by unfold upd; split <;> simp_all
  by_cases hk : k = i
  · exact .inr fun j hj => hup j (hd j (hk ▸ hj))
  · rcases h k with h1 | h1
    · left
      unfold upd
      rw [if_neg hk]
      exact h1
    · exact .inr fun j hj => hup j (h1 j hj)
/-- what may come up next -/
def chkReady (ops : Array Oper) (b : B10) : Bool :=
  !(closedB b) || !(Region.ready .any ops (lst b)).isEmpty && (Region.ready .any ops (lst b)).all fun i =>
    if h : i < 10 then !(b ⟨i, h⟩) && (deps ⟨i, h⟩).all b else i == 10 && (List.finRange 10).all b

theorem any10 {F : Fence} {n : Nat} {P : Program} {ops : Array Oper} {Q : Exit → Act → World → Prop} {w : World} (act : B10 → Act)
    (hr : ∀ b, chkReady ops b = true)
    (hstep : ∀ (b : B10) (i : Fin 10), (∀ j ∈ deps i, b j = true) → ∀ K : Act → World → Prop, K (act (upd b i)) w → wpOpIn F n P ops Q i.1 K (act b) w)
    (hfin : wpOpIn F n P ops Q 10 (wpAnyIn F n P .any ops Q 1 #[true, true, true, true, true, true, true, true, true, true, true, false]) (act fun _ => true) w) :
    wpAnyIn F n P .any ops Q 12 (lst fun _ => false) (act fun _ => false) w := by
  have main : ∀ (fuel : Nat) (b : B10), closedB b = true → fuel + cnt b = 12 → wpAnyIn F n P .any ops Q fuel (lst b) (act b) w := by
    intro fuel
    induction fuel with
    | zero => intro b _ h; have := cnt_le b; omega
    | succ f ih =>
      intro b hcl h
      have hb := hr b
      unfold chkReady at hb
      rw [hcl] at hb
      simp only [Bool.not_true, Bool.false_or] at hb
      simp only [Bool.and_eq_true, List.all_eq_true] at hb
      refine ⟨fun h0 => ?_, fun i hi => ?_⟩
      · rw [h0] at hb
        simp at hb
      · have h1 := hb.2 i hi
        split at h1
        · rename_i hlt
          simp only [Bool.and_eq_true, Bool.not_eq_true', List.all_eq_true] at h1
          refine hstep b ⟨i, hlt⟩ h1.2 _ ?_
          have e := lst_upd b ⟨i, hlt⟩
          dsimp only at e
          rw [e]
          exact ih _ (closed_upd b ⟨i, hlt⟩ hcl h1.2) (by rw [cnt_upd b ⟨i, hlt⟩ h1.1]; omega)
        · simp only [Bool.and_eq_true, beq_iff_eq, List.all_eq_true, List.mem_finRange, forall_const] at h1
          obtain ⟨rfl, hall⟩ := h1
          obtain rfl : b = fun _ => true := funext hall
          obtain rfl : f = 1 := by
            have : cnt (fun _ => true) = 10 := rfl
            omega
          exact hfin
  exact main 12 _ rfl rfl

/-- a slot that an operation has written, or not yet -/
def pickV (c : Bool) (v : Value) : Value := cond c v undef
theorem pickV_true {c : Bool} (h : c = true) (v : Value) : pickV c v = v := by rw [h]; rfl
theorem wpOpIn_yield {F : Fence} {n : Nat} {P : Program} {ops : Array Oper} {Q : Exit → Act → World → Prop} {i : Nat} {o : Oper} {K : Act → World → Prop} {a : Act} {w : World} {v : Value} (ho : ops[i]? = some o) (hg : o.guard = none) (hnd : ∀ c, o.op ≠ .defer c)
    (hab : o.about P w a.eval = none) (hrun : (execOp a.eval o).run P w = .ok (.value v) w) (hK : K (a.put o.dst v) w) : wpOpIn F n P ops Q i K a w := by
  unfold wpOpIn
  simp only [ho]
  have hw : Region.wanted o (yielded ops a.tmps) = true := by simp [Region.wanted, hg]
  rw [if_pos hw]
  refine ⟨fun f hf => (by rw [hab] at hf; cases hf), ?_⟩
  rw [Oper.semAt_plain F _ _ hnd, hrun]
  exact hK
def mk10 (b0 b1 b2 b3 b4 b5 b6 b7 b8 b9 : Bool) : B10 := fun i => match i with
  | 0 => b0 | 1 => b1 | 2 => b2 | 3 => b3 | 4 => b4 | 5 => b5 | 6 => b6 | 7 => b7 | 8 => b8 | 9 => b9
theorem mk10_eta (b : B10) : b = mk10 (b 0) (b 1) (b 2) (b 3) (b 4) (b 5) (b 6) (b 7) (b 8) (b 9) := by
  funext ⟨i, hi⟩
  rcases (by omega : i = 0 ∨ i = 1 ∨ i = 2 ∨ i = 3 ∨ i = 4 ∨ i = 5 ∨ i = 6 ∨ i = 7 ∨ i = 8 ∨ i = 9) with rfl | rfl | rfl | rfl | rfl | rfl | rfl | rfl | rfl | rfl <;> rfl
theorem chk_all {ops : Array Oper} (h : ∀ b0 b1 b2 b3 b4 b5 b6 b7 b8 b9 : Bool, chkReady ops (mk10 b0 b1 b2 b3 b4 b5 b6 b7 b8 b9) = true) (b : B10) : chkReady ops b = true := by
  rw [mk10_eta b]
  exact h _ _ _ _ _ _ _ _ _ _

theorem wpOpIn_append_h {F : Fence} {n : Nat} (w : World) {ops : Array Oper} {i : Nat} {o : Oper} {a : Act} {K : Act → World → Prop} {Q : Exit → Act → World → Prop} (hi : ops[i]? = some o)
    (hg : o.guard = none) (s x : Operand) (T E : TypeId) (ho : o.op = Op.call { callee := Callee.builtin Builtin.append, args := #[s, x], argTypes := #[T, T] })
    (z : Value) (size bytes : Nat) (hT : Tryd.prog.underlying T = some (.slice E)) (hinfo : (Tryd.prog.info? E).map (fun i => (i.zero, i.size, i.bytes)) = some (some z, size, bytes)) (hz1 : z.cells.size = size) (hsz : 0 < size) (hby : bytes ≤ 32)
    (base : Nat) (v : Value) (k : Nat) (xs : List Value) (hs : a.eval s = v) (hown : w.ownsRow base E size v k xs) (vx : Value) (m : Nat) (news : List Value) (hx : a.eval x = vx) (hh : Holds w vx m news) (hl : news.length = m * size)
    (h1 : ∀ u ∈ news, u.oneCell' = true) (hk : k + m ≤ 4398046511104) (hbase : base ≤ w.heap.size)
    (h : ∀ v' w', w'.ownsRow base E size v' (k + m) (xs ++ news) → w.grownBy w' v.ownBlock → (v'.ownBlock = v.ownBlock ∨ v'.ownBlock = some w.heap.size) → K (a.put o.dst v') w') :
    wpOpIn F n Tryd.prog ops Q i K a w := by
  obtain ⟨i0, hi0, hz0, hzs, hz2⟩ := info_parts hinfo
  have hrun : ∃ v' w', (Builtin.append_ #[T, T] o.type #[v, vx]).run Tryd.prog w = .ok v' w' ∧ w'.ownsRow base E size v' (k + m) (xs ++ news) ∧ w.grownBy w' v.ownBlock ∧ (v'.ownBlock = v.ownBlock ∨ v'.ownBlock = some w.heap.size) := by
    rcases hh with ⟨rfl, rfl, rfl⟩ | ⟨ad, c, rfl, _, hc⟩
    · exact ⟨v, w, run_append_owned_none (P := Tryd.prog) (w := w) base T o.type E i0 size hT hi0 v k xs hown, by simpa using hown, World.grownBy.refl _ _, .inl rfl⟩
    · obtain ⟨v', w', hr, h2, h3, _, h5⟩ := run_append_own_at (P := Tryd.prog) w base T o.type E i0 z size bytes hT hi0 hz0 hzs hz2 hz1 hsz v k xs hown ad m c news hl hc h1 (by unfold maxLen; omega) (by
        have : (k + m) * bytes ≤ (k + m) * 32 := Nat.mul_le_mul_left _ hby
        omega) hbase
      exact ⟨v', w', hr, h2, h3, h5⟩
  obtain ⟨v', w', hrun, r1, r2, r3⟩ := hrun
  unfold wpOpIn
  simp only [hi]
  have hw : Region.wanted o (yielded ops a.tmps) = true := by simp [Region.wanted, hg]
  rw [if_pos hw]
  unfold Oper.wpIn
  refine ⟨?_, ?_⟩
  · simp [Oper.about, ho, resolve, Target.leads, Sem.run_pure]
  · rw [Oper.semAt_plain F _ _ (by rw [ho]; intro c hc'; cases hc')]
    simp [execOp, ho, resolve, invoke, builtin, hs, hx, hrun, Result.andThen]
    exact h v' w' r1 r2 r3
end R10
end Go.Proofs.YtiiihoejpmjfeaaDoor

/- What a script makes of a text: the code's Apply, walked. -/
namespace Go.Proofs.YtiiihoejpmjfeaaDoor
open Go.RowKit Go.Shelf
open R10
attribute [local go_sem] Oper.semAt_some


theorem cut_at (A : List (List UInt8)) (i n : Int) (j : Nat) (u : Value) (h : (scells (cut A i n))[j]? = some u) : (scells A)[i.toNat + j]? = some u ∧ j < n.toNat := by
  simp only [scells, cut, List.getElem?_map, List.getElem?_take, List.getElem?_drop] at h ⊢
  split at h
  · exact ⟨h, by assumption⟩
  · simp at h
theorem cut_length (A : List (List UInt8)) (i n : Int) (h0 : 0 ≤ i) (h1 : 0 ≤ n) (h2 : i + n ≤ A.length) : (cut A i n).length = n.toNat := by
  simp [cut]; omega
set_option maxRecDepth 10000 in
theorem run_cut (A : List (List UInt8)) (ao : Option Addr) (cap : Nat) (i n : Int) (h0 : 0 ≤ i) (h1 : 0 ≤ n) (h2 : i + n ≤ A.length) (w : World) (hA : HS w (.slice ao A.length cap) A) :
    ∃ vs, (∀ u : World, (Instr.slice 23 (.slice ao A.length cap) (some (.int .i64 i)) (some (.int .i64 (i + n))) none).run Tryd.prog u = .ok vs u) ∧ (∀ u : World, HS u (.slice ao A.length cap) A → HS u vs (cut A i n)) := by
  have hnc : A.length ≤ cap ∧ (ao = none → A = []) := by
    rcases hA with ⟨h, h3, _⟩ | ⟨ad, c, h, h3, _⟩
    · exact ⟨by omega, fun _ => List.eq_nil_of_length_eq_zero h3⟩
    · cases h
      exact ⟨h3, fun h => by cases h⟩
  refine ⟨.slice (if cap = i.toNat then ao else ao.map (·.add i.toNat)) n.toNat (cap - i.toNat), fun u => ?_, fun u hu => ?_⟩
  · rw [run_slice_lh (P := Tryd.prog) u 23 ao A.length cap (by kernel_rfl) .i64 .i64 i (i + n) h0 (by omega) (by omega)]
    have : (sizeOf (Tryd.prog.elem 23)).run Tryd.prog u = .ok 1 u := by kernel_rfl
    rw [this]
    simp only [Result.andThen, sliced, Nat.mul_one]
    congr 2
    omega
  · unfold HS
    rw [cut_length A i n h0 h1 h2]
    cases ao with
    | none =>
      have hA0 := hnc.2 rfl
      subst hA0
      have : i = 0 := by simp at h2; omega
      subst this
      have : n = 0 := by simp at h2; omega
      subst this
      refine .inl ⟨?_, rfl, by simp [cut, scells]⟩
      rcases hA with ⟨h, h3, _⟩ | ⟨ad, c, h, h3, _⟩
      · cases h; simp
      · cases h
    | some ad =>
      refine .inr ⟨if cap = i.toNat then ad else ad.add i.toNat, cap - i.toNat, by split <;> simp, by omega, fun j x hj => ?_⟩
      obtain ⟨h4, h5⟩ := cut_at A i n j x hj
      rcases hu with ⟨h, _⟩ | ⟨ad', c, h, h3, hc⟩
      · cases h
      · cases h
        have := hc _ _ h4
        rw [if_neg (by omega)]
        obtain ⟨b, off, rfl⟩ := addr_of (hc 0 _ (List.getElem?_eq_getElem (by rw [scells_length]; omega)))
        rw [add_none] at this
        rw [add_none, add_none, Nat.add_assoc]
        exact this

theorem pas_length {n m : Int} (A B : List (List UInt8)) (pre : List (Pie n m)) : (pre.flatMap fun x => pa A B x.1).length ≤ pre.length * (A.length + B.length) := by
  induction pre with
  | nil => simp
  | cons x t ih =>
    have h1 : (pa A B x.1).length ≤ A.length + B.length := by simp [pa, cut]; omega
    simp only [List.flatMap_cons, List.length_append, List.length_cons]
    rw [Nat.add_mul]
    omega
end Go.Proofs.YtiiihoejpmjfeaaDoor

/- SameStrings of the reference, walked at two slices that hold the same. -/
namespace Go.Proofs.YtiiihoejpmjfeaaDoor
open Go.RowKit

set_option maxHeartbeats 1000000 in
theorem SameS_any (va vb : Value) (l : List (List UInt8)) (w : World) (hlen : l.length ≤ 4398046511104) (ha : HS w va l) (hb : HS w vb l) :
    Calls Tryd.prog 7 #[va, vb] w fun e w' => e = .returned (.bool true) ∧ Below w.heap.size w w' := by
  obtain ⟨ao, ca, rfl⟩ := Holds.form ha
  obtain ⟨bo, cb, rfl⟩ := Holds.form hb
  go_enter Tryd.func7, Tryd.ntmps7
  go_wp2
  go_loopw [5] (fun i wr => ∃ k m : Nat, k ≤ l.length ∧ i = .int .i64 k ∧ wr = w.drewN m) (fun i _ => l.length - (intOf i).toNat)
  case atStart => exact ⟨0, 0, Nat.zero_le _, rfl, rfl⟩
  case round =>
    obtain ⟨k, m, hk, rfl, rfl⟩ := hrel
    by_cases hlt : k < l.length
    · obtain ⟨b1, o1, rfl, _, hc1⟩ := HS.at ha (by omega)
      obtain ⟨b2, o2, rfl, _, hc2⟩ := HS.at hb (by omega)
      have d1 := hc1 k hlt
      have d2 := hc2 k hlt
      clear hc1 hc2
      have i1 : 0 ≤ (k : Int) := by omega
      have i2 : (k : Int) < (l.length : Int) := by omega
      go_wp2_with fail
      go_quiet (fail)
      go_wp2
      go_roundw
      case rel => exact ⟨k + 1, _, by omega, by go_num, rfl⟩
      case measure => simp [intOf]; omega
    · go_wp2
      go_ret
      exact ⟨rfl, Below.dN (Below.refl _ w) _⟩

end Go.Proofs.YtiiihoejpmjfeaaDoor

/- What a script makes of a text: the reference's Apply, walked. -/
namespace Go.Proofs.YtiiihoejpmjfeaaDoor
open Go.RowKit
attribute [local simp] st_drew low_drew

theorem run_cut_to (A : List (List UInt8)) (ao : Option Addr) (cap : Nat) (i h : Int) (h0 : 0 ≤ i) (h1 : i ≤ h) (h2 : h ≤ A.length) (w : World) (hA : HS w (.slice ao A.length cap) A) :
    ∃ vo vc, (∀ u : World, (Instr.slice 23 (.slice ao A.length cap) (some (.int .i64 i)) (some (.int .i64 h)) none).run Tryd.prog u = .ok (.slice vo (cut A i (h - i)).length vc) u) ∧ (∀ u : World, HS u (.slice ao A.length cap) A → HS u (.slice vo (cut A i (h - i)).length vc) (cut A i (h - i))) := by
  obtain ⟨vs, h3, h4⟩ := run_cut A ao cap i (h - i) h0 (by omega) (by omega) w hA
  obtain ⟨vo, vc, rfl⟩ := Holds.form (h4 w hA)
  have e : i + (h - i) = h := by omega
  rw [e] at h3
  exact ⟨vo, vc, h3, h4⟩
theorem run_cut_end (A : List (List UInt8)) (ao : Option Addr) (cap : Nat) (i : Int) (h0 : 0 ≤ i) (h1 : i ≤ A.length) (w : World) (hA : HS w (.slice ao A.length cap) A) :
    ∃ vo vc, (∀ u : World, (Instr.slice 23 (.slice ao A.length cap) (some (.int .i64 i)) none none).run Tryd.prog u = .ok (.slice vo (cut A i (A.length - i)).length vc) u) ∧ (∀ u : World, HS u (.slice ao A.length cap) A → HS u (.slice vo (cut A i (A.length - i)).length vc) (cut A i (A.length - i))) := by
  obtain ⟨vo, vc, h3, h4⟩ := run_cut_to A ao cap i A.length h0 h1 (Int.le_refl _) w hA
  refine ⟨vo, vc, fun u => ?_, h4⟩
  rw [← h3 u]
  have hcap : A.length ≤ cap := by
    rcases hA with ⟨h, h3, _⟩ | ⟨ad, c, h, h3, _⟩
    · omega
    · cases h; exact h3
  rw [run_slice_l (P := Tryd.prog) u 23 ao A.length cap (by kernel_rfl) .i64 i h0 h1, run_slice_lh (P := Tryd.prog) u 23 ao A.length cap (by kernel_rfl) .i64 .i64 i A.length h0 h1 (by omega)]
  simp

theorem piecesL_length (a b n m : Int) (l : List Ch) : (piecesL a b n m l).length = l.length + 1 := by
  induction l generalizing a b with
  | nil => rfl
  | cons c l ih => simp [piecesL, ih]
theorem applyL_length (l : List Ch) (A B : List (List UInt8)) : (applyL l A B).length ≤ (l.length + 1) * (A.length + B.length) := by
  rw [← piecesL_length 0 0 A.length B.length l]
  unfold applyL
  generalize piecesL 0 0 A.length B.length l = ps
  induction ps with
  | nil => simp
  | cons x t ih =>
    have h1 : (pa A B x).length ≤ A.length + B.length := by simp [pa, cut]; omega
    simp only [List.flatMap_cons, List.length_append, List.length_cons]
    rw [Nat.add_mul]
    omega
/-- what the rest of a script makes -/
def restA (A B : List (List UInt8)) (a b : Int) (l : List Ch) : List (List UInt8) := (piecesL a b A.length B.length l).flatMap (pa A B)
theorem restA_cons (A B : List (List UInt8)) (a b : Int) (c : Ch) (l : List Ch) : restA A B a b (c :: l) = cut A a (c.A - a) ++ cut B c.B c.BN ++ restA A B (c.A + c.AN) (c.B + c.BN) l := by simp [restA, piecesL, pa]
theorem restA_nil (A B : List (List UInt8)) (a b : Int) : restA A B a b [] = cut A a (A.length - a) := by simp [restA, piecesL, pa, cut]

end Go.Proofs.YtiiihoejpmjfeaaDoor

/- The code's closure that lays the lines of a hunk, walked: the hunk in a box of one's own. -/
namespace Go.Proofs.YtiiihoejpmjfeaaDoor
open Go.RowKit

/-- a hunk that grows in a box: its lines in a row of one's own, all else as it was -/
structure La (w : World) (q : Hk) (ov : Value) (u : World) : Prop where
  low : Below w.heap.size w u
  box : Hx u w.heap.size q ov
  own : u.ownsRow (w.heap.size + 1) 81 2 ov q.ls.length (mkcells q.ls)
/-- boxed changes stay -/
def CK (u u' : World) : Prop := ∀ B c, Cx u B c → Cx u' B c
theorem ck_refl (u : World) : CK u u := fun _ _ h => h
theorem ck_trans {u u' u'' : World} (h : CK u u') (h' : CK u' u'') : CK u u'' := fun B c q => h' B c (h B c q)
theorem ck_low {u u' : World} (h : Below u.heap.size u u') : CK u u' := fun _ _ q => q.low h
theorem cx_neM {u : World} {b : Nat} {d : Ch} (h : Cx u b d) {B s n : Nat} {v : Value} {xs : List Value} (ho : u.ownsRow B 81 s v n xs) : v.ownBlock ≠ some b := by
  intro e
  rcases ho.2 with ⟨rfl, _⟩ | ⟨g, cap, cur, rfl, _, hg, _⟩
  · cases e
  · simp only [Value.ownBlock, Option.some.injEq] at e
    subst e
    unfold Cx chO at h
    rw [h] at hg
    simp at hg
theorem cx_neH {u : World} {b b' : Nat} {d : Ch} (h : Cx u b d) {q : Hk} {v : Value} (hx : Hx u b' q v) : b ≠ b' := by
  rintro rfl
  unfold Cx chO at h
  unfold Hx hkO at hx
  rw [h] at hx
  simp at hx
section
variable {w u u' : World} {q : Hk} {ov ov' : Value} {x' : List Mk}
theorem La.alloc (h : La w q ov u) (o : Obj) : La w q ov (u.alloc o) := ⟨h.low.alloc h.low.size o, h.box.low ((Below.refl _ u).alloc (Nat.le_refl _) o), h.own.alloc o⟩
theorem La.drewN (h : La w q ov u) (n : Nat) : La w q ov (u.drewN n) := ⟨Below.dN h.low n, h.box, h.own⟩
theorem La.keep (h : La w q ov u) (hk : Below u.heap.size u u') : La w q ov u' := ⟨h.low.trans (hk.mono h.low.size), h.box.low hk, owns_keep h.own hk⟩
theorem La.ck (h : La w q ov u) (j : Nat) (z : Value) : CK u (u.setCell ⟨w.heap.size, j, none⟩ z) := fun _ _ p => p.keep (grown_set u _ j z) (fun e => cx_neH p h.box (Option.some.inj e))
/-- lines more -/
theorem La.grow (h : La w q ov u) (hg : u.grownBy u' ov.ownBlock) (ho : u'.ownsRow (w.heap.size + 1) 81 2 ov' x'.length (mkcells x')) : Hx u' w.heap.size q ov ∧ La w ⟨q.A, q.AN, q.B, q.BN, x'⟩ ov' (u'.setCell ⟨w.heap.size, 4, none⟩ ov') ∧ CK u (u'.setCell ⟨w.heap.size, 4, none⟩ ov') := by
  have hbx : Hx u' w.heap.size q ov := h.box.keep hg (fun e => by have := owns_ge h.own e.symm; omega)
  have hs := grown_set u' w.heap.size 4 ov'
  have hlow : Below w.heap.size w u' := h.low.grown hg h.low.size (fun j hj => by have := owns_ge h.own hj; omega)
  refine ⟨hbx, ⟨hlow.grown hs hlow.size (fun j hj => by cases hj; exact Nat.le_refl _), hbx.setl ov', own_kept ho hs ?_⟩, ?_⟩
  · intro k hk e
    cases hk
    have := owns_ge ho e
    omega
  · intro B c p
    have p1 := p.keep hg (fun e => cx_neM p h.own e.symm)
    exact p1.keep hs (fun e => cx_neH p1 hbx (Option.some.inj e))
theorem La.own_set (h : La w q ov u) (j : Nat) (z : Value) : Below w.heap.size w (u.setCell ⟨w.heap.size, j, none⟩ z) ∧ (u.setCell ⟨w.heap.size, j, none⟩ z).ownsRow (w.heap.size + 1) 81 2 ov q.ls.length (mkcells q.ls) := by
  have hs := grown_set u w.heap.size j z
  refine ⟨h.low.grown hs h.low.size (fun j hj => by cases hj; exact Nat.le_refl _), own_kept h.own hs ?_⟩
  intro k hk e
  cases hk
  have := owns_ge h.own e
  omega
/-- a number is written -/
theorem La.setA (h : La w q ov u) (z : Int) : La w ⟨z, q.AN, q.B, q.BN, q.ls⟩ ov (u.setCell ⟨w.heap.size, 0, none⟩ (.int .i64 z)) := ⟨(h.own_set 0 _).1, heap_setCell_same u _ 0 _ _ _ h.box, (h.own_set 0 _).2⟩
theorem La.setAN (h : La w q ov u) (z : Int) : La w ⟨q.A, z, q.B, q.BN, q.ls⟩ ov (u.setCell ⟨w.heap.size, 1, none⟩ (.int .i64 z)) := ⟨(h.own_set 1 _).1, heap_setCell_same u _ 1 _ _ _ h.box, (h.own_set 1 _).2⟩
theorem La.setB (h : La w q ov u) (z : Int) : La w ⟨q.A, q.AN, z, q.BN, q.ls⟩ ov (u.setCell ⟨w.heap.size, 2, none⟩ (.int .i64 z)) := ⟨(h.own_set 2 _).1, heap_setCell_same u _ 2 _ _ _ h.box, (h.own_set 2 _).2⟩
theorem La.setBN (h : La w q ov u) (z : Int) : La w ⟨q.A, q.AN, q.B, z, q.ls⟩ ov (u.setCell ⟨w.heap.size, 3, none⟩ (.int .i64 z)) := ⟨(h.own_set 3 _).1, heap_setCell_same u _ 3 _ _ _ h.box, (h.own_set 3 _).2⟩
end
theorem pk_mks {no sg : Int} (t : List (List UInt8)) : pkL no (mks sg t) = if sg ≠ no ∧ okS sg = true then t else [] := by
  induction t with
  | nil => simp [mks, pkL]
  | cons s t ih =>
    rw [mks_cons, pkL, ih]
    split <;> rfl
theorem mks_length (sg : Int) (t : List (List UInt8)) : (mks sg t).length = t.length := by simp [mks]

set_option maxRecDepth 10000 in
set_option maxHeartbeats 4000000 in
theorem hlay_f (w u : World) (q : Hk) (ov : Value) (sg : Int) (t : List (List UInt8)) (vt : Value) (hL : La w q ov u) (hsg : sg = 32 ∨ sg = 45 ∨ sg = 43) (ht : HS w vt t) (hlen : q.ls.length + t.length ≤ 1099511627776) (han : 0 ≤ q.AN ∧ q.AN ≤ 4611686018427387904) (hbn : 0 ≤ q.BN ∧ q.BN ≤ 4611686018427387904) (an bn : Int) (x' : List Mk) (HAN : Hid (q.AN + ((pkL 43 (mks sg t)).length : Int) = an)) (HBN : Hid (q.BN + ((pkL 45 (mks sg t)).length : Int) = bn)) (HX : Hid (q.ls ++ mks sg t = x')) : Calls Tryd.prog 61 #[.int .u8 sg, vt, .pointer (some ⟨w.heap.size, 0, none⟩)] u fun e u' => e = .returned (.tuple #[]) ∧ (∃ ov', La w ⟨q.A, an, q.B, bn, x'⟩ ov' u') ∧ CK u u' := by
  obtain ⟨tO, tc, rfl⟩ := Holds.form ht
  obtain ⟨A, AN, B, BN, ls⟩ := q
  dsimp only at hlen han hbn HAN HBN HX ⊢
  go_enter Tryd.func61, Tryd.ntmps61
  go_wp2
  go_loopw [9] (fun iv wr => ∃ (k : Nat) (ov : Value) (x : List Mk), k ≤ t.length ∧ iv = .int .i64 (k : Int) ∧ x.length = ls.length + k ∧ La w ⟨A, AN, B, BN, x⟩ ov wr ∧ CK u wr ∧ Hid (x ++ mks sg (t.drop k) = x')) (fun iv _ => t.length - (intOf iv).toNat)
  case atStart => exact ⟨0, ov, ls, Nat.zero_le _, by go_num, rfl, hL, ck_refl _, HX⟩
  case round =>
    obtain ⟨k, ov, x, hk, rfl, hxl, hL, hck, HI⟩ := hrel
    clear HX
    obtain ⟨oo, oc, hov⟩ := (holds_of hL.own).form
    subst hov
    obtain ⟨b0, b1, b2, b3, b4⟩ := hL.box.cells
    dsimp only at b0 b1 b2 b3 b4
    by_cases hlt : k < t.length
    · obtain ⟨tb, tf, rfl, _, htc⟩ := HS.at (HS.keep ht hL.low (Nat.le_refl _)) (by omega)
      obtain ⟨tx, htx⟩ : ∃ tx, t[k] = tx := ⟨_, rfl⟩
      have c0 := htc k hlt
      rw [htx] at c0
      have HI2 : Hid (x ++ [⟨sg, tx⟩] ++ mks sg (t.drop (k + 1)) = x') := (by
        have h := HI.out
        rw [List.drop_eq_getElem_cons hlt, htx, mks_cons] at h
        show _ = _
        rw [← h]
        simp)
      have i1 : 0 ≤ (k : Int) := by omega
      have i2 : (k : Int) < (t.length : Int) := by omega
      have hL2 := hL.alloc (mkO ⟨sg, tx⟩)
      have hck2 := ck_trans hck (ck_low ((Below.refl _ wr).alloc (Nat.le_refl _) (mkO ⟨sg, tx⟩)))
      have hrow := mk_row wr ⟨sg, tx⟩
      have hbl := hL.box.lt
      have HS2 : Hid ((wr.alloc (mkO ⟨sg, tx⟩)).heap.size = wr.heap.size + 1) := (by show _ = _; simp)
      have hW : wr.alloc (Obj.cells #[Value.int IntKind.u8 sg, Value.string ⟨tx.toArray⟩] 81) = wr.alloc (mkO ⟨sg, tx⟩) := rfl
      have hxk : x.length + 1 ≤ 2199023255552 := by omega
      have HXL : Hid (x.length = ls.length + k) := hxl
      clear HI htx htc hxl
      go_wp2_with (at_builtin; refine wpList_append_w _ (by kernel_rfl) (.tmp 14) (.tmp 18) 41 81 (.agg #[.int .u8 0, .string ⟨#[]⟩]) 2 24 rfl Tryd.underlying41 infoMk rfl (by decide) (by decide) (w.heap.size + 1) _ _ _ rfl hL2.own _ 1 (mkcells [⟨sg, tx⟩]) rfl hrow (mkcells_length _) (mkcells_one _) hxk (by have := HS2.out; omega) ?_)
      intro v3 u3 hown3 hg3 _
      rw [← mkcells_append] at hown3
      obtain ⟨o3, c3, rfl⟩ := (holds_of hown3).form
      obtain ⟨hbx3, hL4, hck4⟩ := hL2.grow (x' := x ++ [⟨sg, tx⟩]) hg3 (by rw [List.length_append]; exact hown3)
      obtain ⟨f0, f1, f2, f3, f4⟩ := hbx3.cells
      have ff := hbx3.frozen 4
      clear hW hg3 hown3
      go_wp2
      exact ⟨⟨k + 1, _, x ++ [⟨sg, tx⟩], by omega, by go_num, by have := HXL.out; simp; omega, hL4, ck_trans hck2 hck4, HI2⟩, by simp [intOf]; omega⟩
    · have HX2 : Hid (x = x') := (by
        have h := HI.out
        rw [List.drop_of_length_le (by omega)] at h
        show x = x'
        simpa [mks] using h)
      have hend : decide ((k : Int) < (t.length : Int)) = false := decide_eq_false (by omega)
      have hf1 := hL.box.frozen 1
      have hf3 := hL.box.frozen 3
      have HP1 := pk_mks (no := 43) (sg := sg) t
      have HP2 := pk_mks (no := 45) (sg := sg) t
      rw [HP1] at HAN
      rw [HP2] at HBN
      clear HI HP1 HP2 hxl
      rcases hsg with rfl | rfl | rfl
      · have hA : Hid (AN + (t.length : Int) = an) := (by have h := HAN.out; rw [if_pos (by decide)] at h; exact h)
        have hB : Hid (BN + (t.length : Int) = bn) := (by have h := HBN.out; rw [if_pos (by decide)] at h; exact h)
        have hL4 := hL.setAN (AN + (t.length : Int))
        have hk4 := hL.ck 1 (.int .i64 (AN + (t.length : Int)))
        have hL5 := hL4.setBN (BN + (t.length : Int))
        have hk5 := hL4.ck 3 (.int .i64 (BN + (t.length : Int)))
        obtain ⟨g0, g1, g2, g3, g4⟩ := hL4.box.cells
        dsimp only at g0 g1 g2 g3 g4
        have hg3 := hL4.box.frozen 3
        clear HAN HBN
        go_wp2
        (try simp only [Exit.inBlock, Exit.then])
        first | refine bodyPost_ret (results_none rfl _ _ _) rfl ?_ | refine bodyPost_end (results_none rfl _ _ _) rfl ?_
        refine ⟨rfl, ⟨.slice oo x.length oc, ?_⟩, ck_trans hck (ck_trans hk4 hk5)⟩
        rw [← hA.out, ← hB.out, ← HX2.out]
        exact hL5
      · have hA : Hid (AN + (t.length : Int) = an) := (by have h := HAN.out; rw [if_pos (by decide)] at h; exact h)
        have hB : Hid (BN = bn) := (by have h := HBN.out; rw [if_neg (by decide)] at h; show _ = _; simpa using h)
        have hL4 := hL.setAN (AN + (t.length : Int))
        have hk4 := hL.ck 1 (.int .i64 (AN + (t.length : Int)))
        clear HAN HBN
        go_wp2
        (try simp only [Exit.inBlock, Exit.then])
        first | refine bodyPost_ret (results_none rfl _ _ _) rfl ?_ | refine bodyPost_end (results_none rfl _ _ _) rfl ?_
        refine ⟨rfl, ⟨.slice oo x.length oc, ?_⟩, ck_trans hck hk4⟩
        rw [← hA.out, ← hB.out, ← HX2.out]
        exact hL4
      · have hA : Hid (AN = an) := (by have h := HAN.out; rw [if_neg (by decide)] at h; show _ = _; simpa using h)
        have hB : Hid (BN + (t.length : Int) = bn) := (by have h := HBN.out; rw [if_pos (by decide)] at h; exact h)
        have hL4 := hL.setBN (BN + (t.length : Int))
        have hk4 := hL.ck 3 (.int .i64 (BN + (t.length : Int)))
        clear HAN HBN
        go_wp2
        (try simp only [Exit.inBlock, Exit.then])
        first | refine bodyPost_ret (results_none rfl _ _ _) rfl ?_ | refine bodyPost_end (results_none rfl _ _ _) rfl ?_
        refine ⟨rfl, ⟨.slice oo x.length oc, ?_⟩, ck_trans hck hk4⟩
        rw [← hA.out, ← hB.out, ← HX2.out]
        exact hL4
end Go.Proofs.YtiiihoejpmjfeaaDoor

/- The code's hunk of a group, layer 11, walked. -/
namespace Go.Proofs.YtiiihoejpmjfeaaDoor
open Go.RowKit

/-- a hunk that grows, counted -/
def Lb (w : World) (x : List Mk) (u : World) : Prop := ∃ (ov : Value) (an bn : Int), La w ⟨0, an, 0, bn, x⟩ ov u ∧ ((pkL 43 x).length : Int) = an ∧ ((pkL 45 x).length : Int) = bn
theorem Lb.alloc {w u : World} {x : List Mk} (h : Lb w x u) (o : Obj) : Lb w x (u.alloc o) := by
  obtain ⟨ov, an, bn, h1, h2⟩ := h
  exact ⟨ov, an, bn, h1.alloc o, h2⟩
theorem Lb.low {w u : World} {x : List Mk} (h : Lb w x u) : Below w.heap.size w u := by
  obtain ⟨ov, an, bn, h1, h2⟩ := h
  exact h1.low
theorem pk_add (no : Int) (x y : List Mk) : ((pkL no x).length : Int) + ((pkL no y).length : Int) = ((pkL no (x ++ y)).length : Int) := by
  rw [pkL_append, List.length_append]
  omega
theorem hlay2_f (w u : World) (x : List Mk) (sg : Int) (t : List (List UInt8)) (vt : Value) (hL : Lb w x u) (hsg : sg = 32 ∨ sg = 45 ∨ sg = 43) (ht : HS w vt t) (x' : List Mk) (HX : Hid (x ++ mks sg t = x')) (hlen : x'.length ≤ 1099511627776) : Calls Tryd.prog 61 #[.int .u8 sg, vt, .pointer (some ⟨w.heap.size, 0, none⟩)] u fun e u' => e = .returned (.tuple #[]) ∧ Lb w x' u' ∧ CK u u' := by
  obtain ⟨ov, an, bn, h1, h2, h3⟩ := hL
  have e1 := pkL_length 43 x
  have e2 := pkL_length 45 x
  have hl : x.length + t.length = x'.length := by rw [← HX.out, List.length_append, mks_length]
  have h4 : an + ((pkL 43 (mks sg t)).length : Int) = ((pkL 43 x').length : Int) := by rw [← h2, ← HX.out]; exact pk_add 43 _ _
  have h5 : bn + ((pkL 45 (mks sg t)).length : Int) = ((pkL 45 x').length : Int) := by rw [← h3, ← HX.out]; exact pk_add 45 _ _
  refine (hlay_f w u ⟨0, an, 0, bn, x⟩ ov sg t vt h1 hsg ht (by dsimp only; omega) (by dsimp only; omega) (by dsimp only; omega) _ _ x' h4 h5 HX).mono ?_
  rintro e u' ⟨rfl, ⟨ov', h6⟩, h7⟩
  exact ⟨rfl, ⟨ov', _, _, h6, rfl, rfl⟩, h7⟩
theorem exec_subI {u : World} {p q : Int} (h : IntKind.i64.wrap (p - q) = p - q) {op : Oper} (x y : Operand) (ho : op.op = .binOp .sub 3 x y 3) {ev : Operand → Value} (hx : ev x = .int .i64 p) (hy : ev y = .int .i64 q) :
    (execOp ev op).run Tryd.prog u = .ok (.value (.int .i64 (p - q))) u := by
  simp only [execOp, ho, hx, hy]
  go_simp
theorem exec_storeI {u : World} {a : Addr} (hf : u.frozen? a = false) {z0 : Int} (hc : u.cell? a = some (.int .i64 z0)) {z : Int} {op : Oper} (x y : Operand) (ho : op.op = .store 3 x y) {ev : Operand → Value} (hx : ev x = .pointer (some a)) (hy : ev y = .int .i64 z) :
    (execOp ev op).run Tryd.prog u = .ok .skip (u.setCell a (.int .i64 z)) := by
  simp only [execOp, ho, hx, hy]
  go_simp

set_option maxRecDepth 10000 in
set_option maxHeartbeats 16000000 in
theorem haround_f (g rest : List Ch) (f : Ch) (a b : List (List UInt8)) (ctx : Int) (vg va vb : Value) (w : World) (hg : HCh w vg (f :: g)) (ha : HS w va a) (hb : HS w vb b) (hal : a.length ≤ 1099511627776) (hbl : b.length ≤ 1099511627776) (hgl : g.length ≤ 1099511627776) (hc : 0 ≤ ctx ∧ ctx ≤ 100) (hR : Right true (f.A - min ctx f.A) (f.B - min ctx f.A) a.length b.length (f :: g ++ rest))
    (hfb : 0 ≤ f.B - min ctx f.A) (hnl : ∀ c ∈ f :: g, 0 ≤ c.A ∧ c.A ≤ 2147483647 ∧ 0 ≤ c.AN ∧ c.AN ≤ 2147483647) (R : Hk) (HR : Hid (oneH a b ctx (f :: g) = R)) (hRl : R.ls.length ≤ 549755813888) : Calls Tryd.prog 37 #[vg, va, vb, .int .i64 ctx] w fun e w' => ∃ v', e = .returned (hkV R v') ∧ w'.ownsRow w.heap.size 81 2 v' R.ls.length (mkcells R.ls) ∧ Below w.heap.size w w' := by
  obtain ⟨go, gc, rfl⟩ := Holds.form hg
  obtain ⟨ao, ac, rfl⟩ := Holds.form ha
  obtain ⟨bo, bc, rfl⟩ := Holds.form hb
  obtain ⟨gb, gf, rfl, _, hgc⟩ := HCh.at hg (by simp)
  have p0 := hgc 0 (by simp)
  rw [List.getElem_cons_zero] at p0
  clear hgc
  obtain ⟨N, hN⟩ : ∃ N, g.length = N := ⟨_, rfl⟩
  have HNN : Hid (g.length = N) := hN
  rw [hN] at hgl
  rw [List.length_cons, hN] at hg ⊢
  clear hN
  have hnf := hnl f (by simp)
  have hRf := hR
  rw [List.cons_append] at hRf
  have hnumf := (numB_iff f).1 hRf.1.1
  obtain ⟨m, hm⟩ : ∃ m, min ctx f.A = m := ⟨_, rfl⟩
  have hm1 : (if f.A < ctx then f.A else ctx) = m := by rw [← hm]; split <;> omega
  have hmb : 0 ≤ m ∧ m ≤ f.A ∧ m ≤ ctx := by omega
  obtain ⟨E, hE⟩ : ∃ E, endH a.length ctx (f :: g) = E := ⟨_, rfl⟩
  obtain ⟨RL, hRL⟩ : ∃ RL, bodyH a b E (f.A - m) (f :: g) = RL := ⟨_, rfl⟩
  have HRR : Hid (R = cntH (f.A - m) (f.B - m) RL) := (by
    show _ = _
    rw [← HR.out]
    show cntH (f.A - min ctx f.A) (f.B - min ctx f.A) (bodyH a b (endH a.length ctx (f :: g)) (f.A - min ctx f.A) (f :: g)) = _
    rw [hm, hE, hRL])
  have hRLl : RL.length ≤ 549755813888 := by have := hRl; rw [HRR.out] at this; exact this
  have HEE : Hid (min (a.length : Int) (endA (f.A - m) (f :: g) + ctx) = E) := (by show _ = _; rw [← hE, endH_eq _ _ _ _ (f.A - m)])
  have HRL : Hid (bodyH a b E (f.A - m) (f :: g) = RL) := hRL
  rw [hm] at hR hfb
  have HRT : Hid (Right true (f.A - m) (f.B - m) a.length b.length (f :: g ++ rest) ∧ 0 ≤ f.B - m) := ⟨hR, hfb⟩
  have HNL : Hid (∀ c ∈ f :: g, 0 ≤ c.A ∧ c.A ≤ 2147483647 ∧ 0 ≤ c.AN ∧ c.AN ≤ 2147483647) := hnl
  have HRLL : Hid (R.ls.length = RL.length) := (by show _ = _; rw [HRR.out]; rfl)
  clear hRL hR HR hE hm hRf hnl hRl
  -- the boxes
  have hz0 := Hx.new w ⟨0, 0, 0, 0, []⟩ (.slice none 0 0)
  have hB0 : Below w.heap.size w (w.alloc (hkO ⟨0, 0, 0, 0, []⟩ (.slice none 0 0))) := (Below.refl _ w).alloc (Nat.le_refl _) _
  have HW1 : Hid ((w.alloc (hkO ⟨0, 0, 0, 0, []⟩ (.slice none 0 0))).heap.size = w.heap.size + 1) := (by show _ = _; simp)
  have hWa : w.alloc (Obj.cells #[Value.int IntKind.i64 0, Value.int IntKind.i64 0, Value.int IntKind.i64 0, Value.int IntKind.i64 0, .slice none 0 0] 43) = w.alloc (hkO ⟨0, 0, 0, 0, []⟩ (.slice none 0 0)) := rfl
  generalize hW1 : w.alloc (hkO ⟨0, 0, 0, 0, []⟩ (.slice none 0 0)) = W1 at *
  have hB1 : Below W1.heap.size W1 (W1.alloc (hkO ⟨0, 0, 0, 0, []⟩ (.slice none 0 0))) := (Below.refl _ W1).alloc (Nat.le_refl _) _
  have hLb : Lb W1 [] (W1.alloc (hkO ⟨0, 0, 0, 0, []⟩ (.slice none 0 0))) := ⟨_, 0, 0, ⟨hB1, Hx.new W1 _ _, hnil_row _ _ _ _⟩, rfl, rfl⟩
  have HW2 : Hid ((W1.alloc (hkO ⟨0, 0, 0, 0, []⟩ (.slice none 0 0))).heap.size = W1.heap.size + 1) := (by show _ = _; simp)
  have hWb : W1.alloc (Obj.cells #[Value.int IntKind.i64 0, Value.int IntKind.i64 0, Value.int IntKind.i64 0, Value.int IntKind.i64 0, .slice none 0 0] 43) = W1.alloc (hkO ⟨0, 0, 0, 0, []⟩ (.slice none 0 0)) := rfl
  generalize hW2 : W1.alloc (hkO ⟨0, 0, 0, 0, []⟩ (.slice none 0 0)) = W2 at *
  have hB02 := hB0.trans (hB1.mono hB0.size)
  have r0 : ChAt W2 gb (gf + 0 * 4) f := ChAt.low p0 hB02
  rw [show gf + 0 * 4 = gf by omega] at r0
  obtain ⟨q0, q1, q2, q3⟩ := r0
  have hc11 := Cx.new W2 f
  have hLb2 := hLb.alloc (chO f)
  obtain ⟨x0, x1, x2, x3⟩ := hc11.cells
  have hWc : W2.alloc (Obj.cells #[Value.int IntKind.i64 f.A, Value.int IntKind.i64 f.AN, Value.int IntKind.i64 f.B, Value.int IntKind.i64 f.BN] 62) = W2.alloc (chO f) := rfl
  clear p0 hW1 hW2 hLb
  generalize hW3 : W2.alloc (chO f) = W3 at *
  have n1 : (0 : Int) < (N : Int) + 1 := by omega
  go_enter Tryd.func37, Tryd.ntmps37
  go_wp2
  clear hWa hWb hWc q0 q1 q2 q3 x0 x1 x2 x3 hW3
  generalize hB11 : W2.heap.size = B11 at *
  have hA1 : HS W1 (.slice ao a.length ac) a := HS.keep ha hB0 (Nat.le_refl _)
  have hA2 : HS W1 (.slice bo b.length bc) b := HS.keep hb hB0 (Nat.le_refl _)
  go_loopw [13, 30] (fun nv iv wr => ∃ (i : Nat) (p q : Int) (fl : Bool) (x : List Mk), i ≤ N + 1 ∧ nv = .int .i64 p ∧ iv = .int .i64 (i : Int) ∧ (0 ≤ p ∧ p ≤ 4294967296) ∧ Lb W1 x wr ∧ Cx wr B11 f ∧ Hid (min (a.length : Int) (endA p ((f :: g).drop i) + ctx) = E) ∧ Hid (Right fl p q a.length b.length ((f :: g).drop i ++ rest) ∧ 0 ≤ q) ∧ Hid (x ++ bodyH a b E p ((f :: g).drop i) = RL)) (fun _ iv _ => N + 1 - (intOf iv).toNat)
  case atStart => exact ⟨0, f.A - m, f.B - m, true, [], Nat.zero_le _, rfl, by go_num, by omega, hLb2, hc11, HEE, HRT, HRL⟩
  case round =>
    obtain ⟨i, p, q, fl, x, hi, rfl, rfl, hpb, hL, hc11, HEi, HRi, HI⟩ := hrel
    clear HEE HRT HRL hLb2
    have hBw : Below w.heap.size w wr := hB0.trans (hL.low.mono hB0.size)
    by_cases hlt : i < N + 1
    · have hil : i < (f :: g).length := by rw [List.length_cons, HNN.out]; exact hlt
      obtain ⟨c, hci⟩ : ∃ c, (f :: g)[i] = c := ⟨_, rfl⟩
      have hdr : (f :: g).drop i = c :: (f :: g).drop (i + 1) := by rw [List.drop_eq_getElem_cons hil, hci]
      have hgA : ChAt wr gb (gf + i * 4) c := (by
        have hg2 : HCh w (.slice (some ⟨gb, gf, none⟩) (N + 1) gc) (f :: g) := hg
        obtain ⟨b', off', e, _, hc'⟩ := HCh.at (HCh.keep hg2 hBw (Nat.le_refl _)) (by simp)
        cases e
        have := hc' i hil
        rw [hci] at this
        exact this)
      have hncl := HNL.out c (by rw [← hci]; exact List.getElem_mem hil)
      have hRi := HRi.out
      rw [hdr, List.cons_append] at hRi
      obtain ⟨⟨⟨k1, k2, k3, k4⟩, k5⟩, hq0⟩ := hRi
      have k1' := (numB_iff c).1 k1
      have k6 := k5.le
      have HRn : Hid (Right false (c.A + c.AN) (c.B + c.BN) a.length b.length ((f :: g).drop (i + 1) ++ rest) ∧ 0 ≤ c.B + c.BN) := ⟨k5, by omega⟩
      have HEn : Hid (min (a.length : Int) (endA (c.A + c.AN) ((f :: g).drop (i + 1)) + ctx) = E) := (by have h := HEi.out; rw [hdr] at h; exact h)
      have HI1 : Hid (x ++ bodyH a b E p (c :: (f :: g).drop (i + 1)) = RL) := (by have h := HI.out; rw [hdr] at h; exact h)
      obtain ⟨cA, cAN, cB, cBN⟩ := c
      dsimp only at k1' k2 k3 k4 k5 k6 HRn HEn hncl
      obtain ⟨RS, hRS⟩ : ∃ r, bodyH a b E (cA + cAN) ((f :: g).drop (i + 1)) = r := ⟨_, rfl⟩
      have HRS : Hid (bodyH a b E (cA + cAN) ((f :: g).drop (i + 1)) = RS) := hRS
      obtain ⟨v1o, v1c, r1, h1⟩ := run_cut_to a ao ac p cA hpb.1 k3 (by omega) W1 hA1
      obtain ⟨t1, ht1⟩ : ∃ t, cut a p (cA - p) = t := ⟨_, rfl⟩
      obtain ⟨v2, r2, h2⟩ := run_cut a ao ac cA cAN (by omega) (by omega) (by omega) W1 hA1
      obtain ⟨t2, ht2⟩ : ∃ t, cut a cA cAN = t := ⟨_, rfl⟩
      obtain ⟨v3, r3, h3⟩ := run_cut b bo bc cB cBN (by omega) (by omega) (by omega) W1 hA2
      obtain ⟨t3, ht3⟩ : ∃ t, cut b cB cBN = t := ⟨_, rfl⟩
      have s1 := h1 W1 hA1
      have s2 := h2 W1 hA1
      have s3 := h3 W1 hA2
      rw [ht1] at r1 s1
      rw [ht2] at s2
      rw [ht3] at s3
      obtain ⟨v2o, v2c, rfl⟩ := Holds.form s2
      obtain ⟨v3o, v3c, rfl⟩ := Holds.form s3
      obtain ⟨x1, hx1⟩ : ∃ y, x ++ mks 32 t1 = y := ⟨_, rfl⟩
      obtain ⟨x2, hx2⟩ : ∃ y, x1 ++ mks 45 t2 = y := ⟨_, rfl⟩
      obtain ⟨x3, hx3⟩ : ∃ y, x2 ++ mks 43 t3 = y := ⟨_, rfl⟩
      have hI3 : x3 ++ RS = RL := (by
        have h := HI1.out
        simp only [bodyH] at h
        rw [ht1, ht2, ht3, hRS] at h
        rw [← hx3, ← hx2, ← hx1, ← h]
        simp)
      have HX1 : Hid (x ++ mks 32 t1 = x1) := hx1
      have HX2 : Hid (x1 ++ mks 45 t2 = x2) := hx2
      have HX3 : Hid (x2 ++ mks 43 t3 = x3) := hx3
      have HI3 : Hid (x3 ++ bodyH a b E (cA + cAN) ((f :: g).drop (i + 1)) = RL) := (by show _ = _; rw [hRS]; exact hI3)
      have l3 : x3.length ≤ 549755813888 := by have := congrArg List.length hI3; rw [List.length_append] at this; omega
      have l2 : x2.length ≤ 549755813888 := by have := congrArg List.length hx3; rw [List.length_append] at this; omega
      have l1 : x1.length ≤ 549755813888 := by have := congrArg List.length hx2; rw [List.length_append] at this; omega
      have i1 : 0 ≤ (i : Int) := by omega
      have i2 : (i : Int) < (N : Int) + 1 := by omega
      obtain ⟨d0, d1, d2, d3⟩ := hgA
      have hcc := Cx.new wr ⟨cA, cAN, cB, cBN⟩
      have hL1 := hL.alloc (chO ⟨cA, cAN, cB, cBN⟩)
      have hf1 : Cx (wr.alloc (chO ⟨cA, cAN, cB, cBN⟩)) B11 f := hc11.low ((Below.refl _ wr).alloc (Nat.le_refl _) _)
      obtain ⟨y0, y1, y2, y3⟩ := hcc.cells
      have hW : wr.alloc (Obj.cells #[Value.int IntKind.i64 cA, Value.int IntKind.i64 cAN, Value.int IntKind.i64 cB, Value.int IntKind.i64 cBN] 62) = wr.alloc (chO ⟨cA, cAN, cB, cBN⟩) := rfl
      dsimp only at d0 d1 d2 d3 y0 y1 y2 y3
      clear HI HI1 HEi HRi k5 hdr hci hil ht1 ht2 ht3 hx1 hx2 hx3 hI3 hRS h1 h2 h3 hL hc11
      generalize hwr1 : wr.alloc (chO ⟨cA, cAN, cB, cBN⟩) = wr1 at *
      go_wp2_with fail
      generalize hBC : wr.heap.size = bC at *
      refine (hlay2_f W1 wr1 x 32 t1 _ hL1 (.inl rfl) s1 x1 HX1 (by omega)).mono ?_
      rintro e u1 ⟨rfl, hL2, hk1⟩
      have hcc1 := hk1 _ _ hcc
      have hf2 := hk1 _ _ hf1
      obtain ⟨z0, z1, z2, z3⟩ := hcc1.cells
      dsimp only at z0 z1 z2 z3
      clear y0 y1 y2 y3 hW d0 d1 d2 d3 hL1 hcc hf1 hk1
      go_wp2_with fail
      refine (hlay2_f W1 u1 x1 45 t2 _ hL2 (.inr (.inl rfl)) s2 x2 HX2 (by omega)).mono ?_
      rintro e u2 ⟨rfl, hL3, hk2⟩
      have hcc2 := hk2 _ _ hcc1
      have hf3 := hk2 _ _ hf2
      obtain ⟨y0, y1, y2, y3⟩ := hcc2.cells
      dsimp only at y0 y1 y2 y3
      clear z0 z1 z2 z3 hL2 hcc1 hf2 hk2
      go_wp2_with fail
      refine (hlay2_f W1 u2 x2 43 t3 _ hL3 (.inr (.inr rfl)) s3 x3 HX3 (by omega)).mono ?_
      rintro e u3 ⟨rfl, hL4, hk3⟩
      have hf4 := hk3 _ _ hf3
      clear y0 y1 y2 y3 hL3 hcc2 hf3 hk3
      go_wp2
      exact ⟨⟨i + 1, cA + cAN, cB + cBN, false, x3, by omega, rfl, by go_num, by omega, hL4, hf4, HEn, HRn, HI3⟩, by simp [intOf]; omega⟩
    · have hdr : (f :: g).drop i = [] := List.drop_of_length_le (by rw [List.length_cons, HNN.out]; omega)
      have hE2 : min (a.length : Int) (p + ctx) = E := (by have h := HEi.out; rw [hdr] at h; exact h)
      have hE1 : (if (a.length : Int) < p + ctx then (a.length : Int) else p + ctx) = E := by rw [← hE2]; split <;> omega
      have hRi := HRi.out.1
      rw [hdr, List.nil_append] at hRi
      have k6 := hRi.le
      have HI1 : Hid (x ++ mks 32 (cut a p (E - p)) = RL) := (by have h := HI.out; rw [hdr] at h; exact h)
      obtain ⟨v1o, v1c, r1, h1⟩ := run_cut_to a ao ac p E hpb.1 (by omega) (by omega) W1 hA1
      obtain ⟨t1, ht1⟩ : ∃ t, cut a p (E - p) = t := ⟨_, rfl⟩
      have s1 := h1 W1 hA1
      rw [ht1] at r1 s1 HI1
      have hend : decide ((i : Int) < (N : Int) + 1) = false := decide_eq_false (by omega)
      clear HI HEi HRi hdr hRi ht1 h1 hE2
      go_wp2_with fail
      refine (hlay2_f W1 wr x 32 t1 _ hL (.inl rfl) s1 RL HI1 (by omega)).mono ?_
      rintro e wz ⟨rfl, hL2, hk1⟩
      have hf2 := hk1 _ _ hc11
      obtain ⟨ov, an, bn, hL3, han, hbn⟩ := hL2
      have HAN : Hid (((pkL 43 RL).length : Int) = an) := han
      have HBN : Hid (((pkL 45 RL).length : Int) = bn) := hbn
      obtain ⟨nA, hnA⟩ : ∃ z, (if 0 < an then f.A - m + 1 else f.A - m) = z := ⟨_, rfl⟩
      obtain ⟨nB, hnB⟩ : ∃ z, (if 0 < bn then f.B - m + 1 else f.B - m) = z := ⟨_, rfl⟩
      have HNA : Hid ((if 0 < an then f.A - m + 1 else f.A - m) = nA) := hnA
      have HNB : Hid ((if 0 < bn then f.B - m + 1 else f.B - m) = nB) := hnB
      have HRv : Hid (R = ⟨nA, an, nB, bn, RL⟩) := (by
        show _ = _
        rw [HRR.out, ← hnA, ← hnB, ← han, ← hbn]
        unfold cntH
        simp only [Int.natCast_pos])
      have hw1 : IntKind.i64.wrap (f.A - m) = f.A - m := wrap_s (by omega) (by omega)
      have hw2 : IntKind.i64.wrap (f.B - m) = f.B - m := wrap_s (by omega) (by omega)
      clear hnA hnB han hbn hk1 hL hc11
      obtain ⟨oo, oc, hov⟩ := (holds_of hL3.own).form
      dsimp only at hov
      subst hov
      have hLD := hL3.drewN 1
      have hfD : Cx (wz.drewN 1) B11 f := hf2
      have hcD0 := hLD.box.cells.1
      have hfD0 := hLD.box.frozen 0
      have hL4 := hLD.setA nA
      have hf4 := hLD.ck 0 (.int .i64 nA) _ _ hfD
      have hcD2 := hL4.box.cells.2.2.1
      have hfD2 := hL4.box.frozen 2
      have hL5 := hL4.setB nB
      have hf5 := hL4.ck 2 (.int .i64 nB) _ _ hf4
      dsimp only at hcD0 hcD2 hL4 hL5
      have hSD : ∃ A B, La W1 ⟨A, an, B, bn, RL⟩ (.slice oo RL.length oc) (wz.drewN 1) ∧ Cx (wz.drewN 1) B11 f := ⟨0, 0, hLD, hfD⟩
      have hS1 : ∃ A B, La W1 ⟨A, an, B, bn, RL⟩ (.slice oo RL.length oc) ((wz.drewN 1).setCell ⟨W1.heap.size, 0, none⟩ (.int .i64 nA)) ∧ Cx ((wz.drewN 1).setCell ⟨W1.heap.size, 0, none⟩ (.int .i64 nA)) B11 f := ⟨nA, 0, hL4, hf4⟩
      have hS2 : ∃ A B, La W1 ⟨A, an, B, bn, RL⟩ (.slice oo RL.length oc) (((wz.drewN 1).setCell ⟨W1.heap.size, 0, none⟩ (.int .i64 nA)).setCell ⟨W1.heap.size, 2, none⟩ (.int .i64 nB)) ∧ Cx (((wz.drewN 1).setCell ⟨W1.heap.size, 0, none⟩ (.int .i64 nA)).setCell ⟨W1.heap.size, 2, none⟩ (.int .i64 nB)) B11 f := ⟨nA, nB, hL5, hf5⟩
      go_upto_region 15 with fail
      refine wp_region_noPanic ?_
      refine wp_region_held_drew (S := fun u => ∃ A B, La W1 ⟨A, an, B, bn, RL⟩ (.slice oo RL.length oc) u ∧ Cx u B11 f) (by kernel_rfl) hSD (fun hHeld => ?_)
      refine go_take 0 76 _ (.pointer (some ⟨B11, 0, none⟩)) rfl (by kernel_rfl) (by kernel_rfl) (by kernel_rfl) (by kernel_rfl) (fun _ _ _ h => h) (Or.inl ⟨by kernel_rfl, fun u hu => by kernel_rfl⟩) hHeld ?_
      simp only [Act.put, List.setIfInBounds_toArray, List.set_cons_zero, List.set_cons_succ]
      refine go_take 1 77 _ (.int .i64 f.A) rfl (by kernel_rfl) (by kernel_rfl) (by kernel_rfl) (by kernel_rfl) (fun _ _ _ h => h) (Or.inl ⟨by kernel_rfl, fun u hu => (by obtain ⟨_, _, _, hc⟩ := hu; exact load_int hc.cells.1 (.tmp 76) (by kernel_rfl) (by kernel_rfl))⟩) hHeld ?_
      simp only [Act.put, List.setIfInBounds_toArray, List.set_cons_zero, List.set_cons_succ]
      refine go_take 2 78 _ (.int .i64 m) rfl (by kernel_rfl) (by kernel_rfl) (by kernel_rfl) (by kernel_rfl) (fun _ _ _ h => h) (Or.inl ⟨by kernel_rfl, fun u hu => by kernel_rfl⟩) hHeld ?_
      simp only [Act.put, List.setIfInBounds_toArray, List.set_cons_zero, List.set_cons_succ]
      refine go_take 3 79 _ (.int .i64 (f.A - m)) rfl (by kernel_rfl) (by kernel_rfl) (by kernel_rfl) (by kernel_rfl) (fun _ _ _ h => h) (Or.inl ⟨by kernel_rfl, fun u hu => exec_subI hw1 (.tmp 77) (.tmp 78) (by kernel_rfl) (by kernel_rfl) (by kernel_rfl)⟩) hHeld ?_
      simp only [Act.put, List.setIfInBounds_toArray, List.set_cons_zero, List.set_cons_succ]
      refine go_take 4 80 _ (.pointer (some ⟨W1.heap.size, 1, none⟩)) rfl (by kernel_rfl) (by kernel_rfl) (by kernel_rfl) (by kernel_rfl) (fun _ _ _ h => h) (Or.inl ⟨by kernel_rfl, fun u hu => by kernel_rfl⟩) hHeld ?_
      simp only [Act.put, List.setIfInBounds_toArray, List.set_cons_zero, List.set_cons_succ]
      refine go_take 5 81 _ (.int .i64 an) rfl (by kernel_rfl) (by kernel_rfl) (by kernel_rfl) (by kernel_rfl) (fun _ _ _ h => h) (Or.inl ⟨by kernel_rfl, fun u hu => (by obtain ⟨_, _, hl, _⟩ := hu; exact load_int hl.box.cells.2.1 (.tmp 80) (by kernel_rfl) (by kernel_rfl))⟩) hHeld ?_
      simp only [Act.put, List.setIfInBounds_toArray, List.set_cons_zero, List.set_cons_succ]
      refine go_take 7 83 _ (.pointer (some ⟨B11, 2, none⟩)) rfl (by kernel_rfl) (by kernel_rfl) (by kernel_rfl) (by kernel_rfl) (fun _ _ _ h => h) (Or.inl ⟨by kernel_rfl, fun u hu => by kernel_rfl⟩) hHeld ?_
      simp only [Act.put, List.setIfInBounds_toArray, List.set_cons_zero, List.set_cons_succ]
      refine go_take 8 84 _ (.int .i64 f.B) rfl (by kernel_rfl) (by kernel_rfl) (by kernel_rfl) (by kernel_rfl) (fun _ _ _ h => h) (Or.inl ⟨by kernel_rfl, fun u hu => (by obtain ⟨_, _, _, hc⟩ := hu; exact load_int hc.cells.2.2.1 (.tmp 83) (by kernel_rfl) (by kernel_rfl))⟩) hHeld ?_
      simp only [Act.put, List.setIfInBounds_toArray, List.set_cons_zero, List.set_cons_succ]
      refine go_take 9 85 _ (.int .i64 m) rfl (by kernel_rfl) (by kernel_rfl) (by kernel_rfl) (by kernel_rfl) (fun _ _ _ h => h) (Or.inl ⟨by kernel_rfl, fun u hu => by kernel_rfl⟩) hHeld ?_
      simp only [Act.put, List.setIfInBounds_toArray, List.set_cons_zero, List.set_cons_succ]
      refine go_take 10 86 _ (.int .i64 (f.B - m)) rfl (by kernel_rfl) (by kernel_rfl) (by kernel_rfl) (by kernel_rfl) (fun _ _ _ h => h) (Or.inl ⟨by kernel_rfl, fun u hu => exec_subI hw2 (.tmp 84) (.tmp 85) (by kernel_rfl) (by kernel_rfl) (by kernel_rfl)⟩) hHeld ?_
      simp only [Act.put, List.setIfInBounds_toArray, List.set_cons_zero, List.set_cons_succ]
      refine go_take 11 87 _ (.pointer (some ⟨W1.heap.size, 3, none⟩)) rfl (by kernel_rfl) (by kernel_rfl) (by kernel_rfl) (by kernel_rfl) (fun _ _ _ h => h) (Or.inl ⟨by kernel_rfl, fun u hu => by kernel_rfl⟩) hHeld ?_
      simp only [Act.put, List.setIfInBounds_toArray, List.set_cons_zero, List.set_cons_succ]
      refine go_take 12 88 _ (.int .i64 bn) rfl (by kernel_rfl) (by kernel_rfl) (by kernel_rfl) (by kernel_rfl) (fun _ _ _ h => h) (Or.inl ⟨by kernel_rfl, fun u hu => (by obtain ⟨_, _, hl, _⟩ := hu; exact load_int hl.box.cells.2.2.2.1 (.tmp 87) (by kernel_rfl) (by kernel_rfl))⟩) hHeld ?_
      simp only [Act.put, List.setIfInBounds_toArray, List.set_cons_zero, List.set_cons_succ]
      refine go_callE 6 82 _ rfl (by kernel_rfl) (by kernel_rfl) (by kernel_rfl) 62 (.func 62) #[.tmp 79, .tmp 81] #[3, 3] (by kernel_rfl) #[] (by kernel_rfl) #[.int .i64 (f.A - m), .int .i64 an] (by kernel_rfl) (enters_of Tryd.func62 (by kernel_rfl) rfl) (fun v u => v = .int .i64 nA ∧ u = wz.drewN 1) ((hnumberOf_f (f.A - m) an _ (by omega) (by omega) nA HNA).mono (fun _ _ h => ⟨_, h.1, by rw [h.2]; exact hSD, rfl, h.2⟩)) ?_
      rintro v w5 hHeld ⟨rfl, rfl⟩
      simp only [Act.put, List.setIfInBounds_toArray, List.set_cons_zero, List.set_cons_succ]
      refine go_take 14 90 _ (.pointer (some ⟨W1.heap.size, 0, none⟩)) rfl (by kernel_rfl) (by kernel_rfl) (by kernel_rfl) (by kernel_rfl) (fun _ _ _ h => h) (Or.inl ⟨by kernel_rfl, fun u hu => by kernel_rfl⟩) hHeld ?_
      simp only [Act.put, List.setIfInBounds_toArray, List.set_cons_zero, List.set_cons_succ]
      refine go_callE 13 89 _ rfl (by kernel_rfl) (by kernel_rfl) (by kernel_rfl) 62 (.func 62) #[.tmp 86, .tmp 88] #[3, 3] (by kernel_rfl) #[] (by kernel_rfl) #[.int .i64 (f.B - m), .int .i64 bn] (by kernel_rfl) (enters_of Tryd.func62 (by kernel_rfl) rfl) (fun v u => v = .int .i64 nB ∧ u = wz.drewN 1) ((hnumberOf_f (f.B - m) bn _ (by omega) (by omega) nB HNB).mono (fun _ _ h => ⟨_, h.1, by rw [h.2]; exact hSD, rfl, h.2⟩)) ?_
      rintro v w6 hHeld ⟨rfl, rfl⟩
      simp only [Act.put, List.setIfInBounds_toArray, List.set_cons_zero, List.set_cons_succ]
      refine go_skip 15 _ rfl (by kernel_rfl) (by kernel_rfl) (by kernel_rfl) ((wz.drewN 1).setCell ⟨W1.heap.size, 0, none⟩ (.int .i64 nA)) (exec_storeI hfD0 hcD0 (.tmp 90) (.tmp 82) (by kernel_rfl) (by kernel_rfl) (by kernel_rfl)) (hS1) ?_
      refine go_take 16 91 _ (.pointer (some ⟨W1.heap.size, 2, none⟩)) rfl (by kernel_rfl) (by kernel_rfl) (by kernel_rfl) (by kernel_rfl) (fun _ _ _ h => h) (Or.inl ⟨by kernel_rfl, fun u hu => by kernel_rfl⟩) hS1 ?_
      simp only [Act.put, List.setIfInBounds_toArray, List.set_cons_zero, List.set_cons_succ]
      refine go_skip 17 _ rfl (by kernel_rfl) (by kernel_rfl) (by kernel_rfl) (((wz.drewN 1).setCell ⟨W1.heap.size, 0, none⟩ (.int .i64 nA)).setCell ⟨W1.heap.size, 2, none⟩ (.int .i64 nB)) (exec_storeI hfD2 hcD2 (.tmp 91) (.tmp 89) (by kernel_rfl) (by kernel_rfl) (by kernel_rfl)) (hS2) ?_
      refine wpAnyH_done (by kernel_rfl) ?_ _
      refine NoPanic.normal ?_
      generalize ((wz.drewN 1).setCell ⟨W1.heap.size, 0, none⟩ (.int .i64 nA)).setCell ⟨W1.heap.size, 2, none⟩ (.int .i64 nB) = W4 at *
      have hz4 := hz0.low hL5.low
      obtain ⟨t0, t1, t2, t3, t4⟩ := hL5.box.cells
      obtain ⟨z0, z1, z2, z3, z4⟩ := hz4.cells
      have zf := hz4.frozen
      have zf0 := zf 0
      have zf1 := zf 1
      have zf2 := zf 2
      have zf3 := zf 3
      have zf4 := zf 4
      dsimp only at t0 t1 t2 t3 t4 z0 z1 z2 z3 z4
      have hP := hz4.put5 (.int .i64 nA) (.int .i64 an) (.int .i64 nB) (.int .i64 bn) (.slice oo RL.length oc)
      have hlw : Below w.heap.size w W4 := hB0.trans (hL5.low.mono hB0.size)
      have hown5 := hL5.own
      clear zf
      go_wp2
      rw [HRv.out]
      refine bodyPost_ret (v := hkV ⟨nA, an, nB, bn, RL⟩ (.slice oo RL.length oc)) (results_cell_row rfl _ _ w.heap.size 43 #[.int .i64 nA, .int .i64 an, .int .i64 nB, .int .i64 bn, .slice oo RL.length oc] (0, 0) _ rfl hP Tryd.underlying43 rfl (by kernel_rfl)) rfl ⟨_, rfl, ?_, ?_⟩
      · have key : ∀ (u : World) (j : Nat) (z : Value), u.ownsRow w.heap.size 81 2 (.slice oo RL.length oc) RL.length (mkcells RL) → (∀ g, (Value.slice oo RL.length oc).ownBlock = some g → w.heap.size < g) → (u.setCell ⟨w.heap.size, j, none⟩ z).ownsRow w.heap.size 81 2 (.slice oo RL.length oc) RL.length (mkcells RL) := fun u j z ho hg => own_kept ho (grown_set u _ j z) (fun k hk e => by cases hk; have := hg _ e; omega)
        have hgg : ∀ g, (Value.slice oo RL.length oc).ownBlock = some g → w.heap.size < g := fun g hg => by have := owns_ge hown5 hg; have := HW1.out; omega
        have h0 : W4.ownsRow w.heap.size 81 2 (.slice oo RL.length oc) RL.length (mkcells RL) := own_base hown5 (by have := HW1.out; omega)
        exact key _ _ _ (key _ _ _ (key _ _ _ (key _ _ _ (key _ _ _ h0 hgg) hgg) hgg) hgg) hgg
      · exact ((((hlw.setCell (by simp) _).setCell (by simp) _).setCell (by simp) _).setCell (by simp) _).setCell (by simp) _
end Go.Proofs.YtiiihoejpmjfeaaDoor

/- The reference's Make of layer 11, walked. -/
namespace Go.Proofs.YtiiihoejpmjfeaaDoor
open Go.RowKit

theorem Hs.base {w W u : World} {ov : Value} {P : List (Hk × Value)} (h : Hs W ov P u) (hB : Below w.heap.size w W) : Hs w ov P u :=
  ⟨hB.trans (h.low.mono hB.size), own_base h.own hB.size, fun x hx => own_base (h.ins x hx) hB.size⟩
/-- a group of the row, read -/
theorem Gr.at {w W u : World} {oo : Option Addr} {n oc : Nat} {G : List (List Ch × Value)} (h : Gr w (.slice oo n oc) G W) (hB : Below W.heap.size W u) {i : Nat} (hi : i < G.length) {g : List Ch} {gv : Value} (hg : G[i] = (g, gv)) : ∃ q, oo = some ⟨q, 0, none⟩ ∧ u.cell? ⟨q, i, none⟩ = some gv ∧ HCh u gv g := by
  have hh := holds_of h.own
  obtain ⟨b, off, c', hv, hb, hc⟩ := Holds.at hh (by simp; omega)
  rcases h.own.2 with ⟨_, h0⟩ | ⟨q, cap, cur, e, _⟩
  · omega
  · cases e
    cases hv
    refine ⟨_, rfl, ?_, ?_⟩
    · have h1 := hc i (by simpa using hi)
      rw [Nat.zero_add] at h1
      refine hcell_keep hB ?_
      rw [h1]
      simp [hg]
    · have hin := h.ins (g, gv) (by rw [← hg]; exact List.getElem_mem hi)
      exact HCh.keep (holds_of hin) hB (Nat.le_refl _)

end Go.Proofs.YtiiihoejpmjfeaaDoor

/- The code's Make of layer 11, walked. -/
namespace Go.Proofs.YtiiihoejpmjfeaaDoor
open Go.RowKit

set_option maxRecDepth 10000 in
set_option maxHeartbeats 16000000 in
theorem hMake_f (l : List Ch) (a b : List (List UInt8)) (ctx : Int) (v va vb : Value) (w : World) (hv : HCh w v l) (ha : HS w va a) (hb : HS w vb b) (hl : l.length ≤ 1099511627776) (hal : a.length ≤ 137438953472) (hbl : b.length ≤ 137438953472) (z : Int) (HZ : Hid (grpE l a.length b.length ctx = z)) (R : List Hk) (HR : Hid (mkR l a b ctx = R)) : Calls Tryd.prog 13 #[v, va, vb, .int .i64 ctx] w fun e w' => ∃ v' P, e = .returned (.tuple #[v', .int .i64 z]) ∧ Hs w v' P w' ∧ P.map (·.1) = R := by
  obtain ⟨vo, lc, rfl⟩ := Holds.form hv
  obtain ⟨ao, ac, rfl⟩ := Holds.form ha
  obtain ⟨bo, bc, rfl⟩ := Holds.form hb
  obtain ⟨GR, hGR⟩ : ∃ GR, grpR l a.length b.length ctx = GR := ⟨_, rfl⟩
  have HGR : Hid (grpR l a.length b.length ctx = GR) := hGR
  have HR1 : Hid (GR.map (oneH a b ctx) = R) := (by show _ = _; rw [← HR.out, ← hGR]; rfl)
  clear hGR
  go_enter Tryd.func13, Tryd.ntmps13
  go_wp2_with fail
  refine (hGroup_f l a.length b.length ctx _ w hv hl (by omega) (by omega) z HZ GR HGR).mono ?_
  rintro e W ⟨gv0, G, rfl, hG, _, hGm⟩
  obtain ⟨go, gc, rfl⟩ := (holds_of hG.own).form
  have HGM : Hid (G.map (·.1) = GR) := hGm
  clear hGm HR
  by_cases hz : z = 0
  · subst hz
    have HE : Hid (grp ctx l = GR ∧ Script l a.length b.length ∧ 0 ≤ ctx ∧ ctx ≤ 100) := (by
      have h1 := HZ.out
      have h2 := HGR.out
      unfold grpR at h2
      rw [h1, if_pos rfl] at h2
      refine ⟨h2, ?_⟩
      unfold grpE at h1
      by_cases hs : Script l a.length b.length
      · refine ⟨hs, ?_⟩
        rw [chk_ok hs] at h1
        by_cases hx : ctx < 0 ∨ 100 < ctx
        · simp [hx] at h1
        · omega
      · rw [chk_no hs] at h1
        simp at h1)
    have hctx := HE.out.2.2
    have hGl : G.length ≤ 1099511627776 := (by
      have h1 := congrArg List.length HGM.out
      have h2 : (grp ctx l).length ≤ l.length := (by
        have key : ∀ l : List Ch, (grp ctx l).length ≤ l.length := by
          intro l
          induction l with
          | nil => simp [grp]
          | cons c l ih =>
            cases l with
            | nil => simp [grp, gcons]
            | cons d l =>
              obtain ⟨g, gs, p1, p2⟩ := grp_cons2 ctx c d l
              rw [p2]
              rw [p1] at ih
              split <;> simp at ih ⊢ <;> omega
        exact key l)
      rw [HE.out.1] at h2
      simp at h1
      omega)
    clear HZ HGR
    go_wp2
    go_loopw [12, 30] (fun ov iv wr => ∃ (i : Nat) (P : List (Hk × Value)), i ≤ G.length ∧ iv = .int .i64 (i : Int) ∧ (∃ oo oc, ov = .slice oo i oc) ∧ Hs W ov P wr ∧ Hid (P.length = i ∧ P.map (·.1) = (GR.take i).map (oneH a b ctx))) (fun _ iv _ => G.length - (intOf iv).toNat)
    case atStart => exact ⟨0, [], Nat.zero_le _, by go_num, ⟨_, _, rfl⟩, Hs.nil W, ⟨rfl, rfl⟩⟩
    case round =>
      obtain ⟨i, P, hi, rfl, ⟨oo, oc, rfl⟩, hS, HP⟩ := hrel
      by_cases hlt : i < G.length
      · obtain ⟨g, gv, hgi⟩ : ∃ g gv, G[i] = (g, gv) := ⟨_, _, rfl⟩
        obtain ⟨q, rfl, hcell, hch⟩ := hG.at hS.low hlt hgi
        have hGRl : GR.length = G.length := by rw [← HGM.out]; simp
        have hGRi : GR[i]'(by omega) = g := by
          have h1 : GR[i]? = some g := by rw [← HGM.out]; simp [hlt, hgi]
          exact (List.getElem?_eq_some_iff.1 h1).2
        have hsp : GR = GR.take i ++ g :: GR.drop (i + 1) := by
          rw [← hGRi, ← List.drop_eq_getElem_cons (by omega), List.take_append_drop]
        have hgne : g ≠ [] := grp_ne ctx l g (by rw [HE.out.1, ← hGRi]; exact List.getElem_mem _)
        obtain ⟨f, g', rfl⟩ : ∃ f g', g = f :: g' := by
          cases g with
          | nil => exact absurd rfl hgne
          | cons f g' => exact ⟨f, g', rfl⟩
        obtain ⟨hR1, hR2, hR3, hR4⟩ := script_at hctx.1 HE.out.2.1 (HE.out.1.trans hsp)
        have hnums := right_nums hR1
        have hgl : g'.length ≤ 1099511627776 := (by
          have h1 := congrArg List.length (grp_flatten ctx l)
          rw [HE.out.1, hsp] at h1
          simp only [List.flatten_append, List.flatten_cons, List.length_append, List.length_cons] at h1
          omega)
        obtain ⟨H, hH⟩ : ∃ H, oneH a b ctx (f :: g') = H := ⟨_, rfl⟩
        have HH : Hid (oneH a b ctx (f :: g') = H) := hH
        rw [hH] at hR4
        have hBw : Below w.heap.size w wr := hG.low.trans (hS.low.mono hG.low.size)
        have ha' := HS.keep ha hBw (Nat.le_refl _)
        have hb' := HS.keep hb hBw (Nat.le_refl _)
        obtain ⟨ho, hc, rfl⟩ := Holds.form hch
        have HP2 : ∀ y : Value, Hid ((P ++ [(H, y)]).length = i + 1 ∧ (P ++ [(H, y)]).map (·.1) = (GR.take (i + 1)).map (oneH a b ctx)) := fun y => (by
          refine ⟨by rw [List.length_append, HP.out.1]; rfl, ?_⟩
          rw [List.map_append, HP.out.2, List.take_succ_eq_append_getElem (by omega), List.map_append, hGRi]
          simp [hH])
        have i1 : 0 ≤ (i : Int) := by omega
        have i2 : (i : Int) < (G.length : Int) := by omega
        clear hsp hGRi hGRl hgne hgi hH
        go_wp2_with fail
        refine (haround_f g' (GR.drop (i + 1)).flatten f a b ctx _ _ _ wr hch ha' hb' (by omega) (by omega) hgl hctx hR1 hR3 (fun c hc => by have := (numB_iff c).1 (hnums c (by simp at hc ⊢; rcases hc with hc | hc; exact .inl hc; exact .inr (.inl hc))); omega) H HH (by omega)).mono ?_
        rintro e wr1 ⟨v1, rfl, hown1, hB1⟩
        obtain ⟨ro, rc, rfl⟩ := (holds_of hown1).form
        have hS1 : Hs W (.slice oo i oc) P wr1 := ⟨hS.low.trans (hB1.mono hS.low.size), owns_keep hS.own hB1, fun x hx => owns_keep (hS.ins x hx) hB1⟩
        have hown1' := own_base hown1 hS.low.size
        have hS5 := hS1.alloc (hkO H (.slice ro H.ls.length rc))
        have hrow5 := one_row wr1 H (.slice ro H.ls.length rc)
        have hown5 := hown1'.alloc (hkO H (.slice ro H.ls.length rc))
        have hl4 := hS1.low.size
        have hW5 : wr1.alloc (Obj.cells #[Value.int IntKind.i64 H.A, Value.int IntKind.i64 H.AN, Value.int IntKind.i64 H.B, Value.int IntKind.i64 H.BN, .slice ro H.ls.length rc] 43) = wr1.alloc (hkO H (.slice ro H.ls.length rc)) := rfl
        have HS5 : Hid ((wr1.alloc (hkO H (.slice ro H.ls.length rc))).heap.size = wr1.heap.size + 1) := (by show _ = _; simp)
        have hownP := hS5.own
        rw [HP.out.1] at hownP
        unfold hkV
        clear hB1 hown1 hR1 hnums hch hcell
        go_wp2_with (at_builtin; refine wpList_append_w _ (by kernel_rfl) (.tmp 34) (.tmp 40) 29 43 (.agg #[.int .i64 0, .int .i64 0, .int .i64 0, .int .i64 0, .slice none 0 0]) 5 56 rfl Tryd.underlying29 infoHk rfl (by decide) (by decide) W.heap.size _ _ _ rfl hownP _ 1 (hkC H (.slice ro H.ls.length rc)) rfl hrow5 rfl (hkC_one _) (by omega) (by have := HS5.out; omega) ?_)
        intro v6 W6 hown6 hg6 _
        have hS6 := hS5.more hown5 hg6 (ov' := v6) (by rw [HP.out.1]; exact hown6)
        obtain ⟨ro6, rc6, rfl⟩ := (holds_of hown6).form
        clear hg6 hown6 hownP hrow5
        go_wp2
        exact ⟨⟨i + 1, P ++ [(H, .slice ro H.ls.length rc)], by omega, by go_num, ⟨_, _, rfl⟩, hS6, HP2 _⟩, by simp [intOf]; omega⟩
      · have hend : decide ((i : Int) < (G.length : Int)) = false := decide_eq_false (by omega)
        have HF : Hid (P.map (·.1) = R) := (by
          have hGRl : GR.length = G.length := by rw [← HGM.out]; simp
          show _ = _
          rw [HP.out.2, List.take_of_length_le (by omega)]
          exact HR1.out)
        go_wp2
        go_ret2
        exact ⟨_, P, rfl, hS.base hG.low, HF.out⟩
  · have hz1 : (z != 0) = true := by simpa using hz
    have HRN : Hid (R = []) := (by
      show _ = _
      rw [← HR1.out, ← HGR.out]
      unfold grpR
      rw [HZ.out, if_neg hz]
      rfl)
    clear HZ HGR hz
    go_wp2
    go_ret2
    rw [HRN.out]
    exact ⟨_, [], rfl, ⟨hG.low, hnil_row _ _ _ _, fun _ h => by cases h⟩, rfl⟩
end Go.Proofs.YtiiihoejpmjfeaaDoor

/- The table of powers of ten, as the rows list it, and a world that holds the listed tables. -/
namespace Go.Proofs.YtiiihoejpmjfeaaDoor.Tb
open Go.RowKit

theorem gTab : Tryd.prog.globalNamed "internal/strconv.uint64pow10" = some 2 := by kernel_rfl
theorem gTabType : (Tryd.prog.globals[2]?).map (·.type) = some 172 := by kernel_rfl
theorem cellsTab : Tryd.prog.cellsOf 172 = 20 := by kernel_rfl
theorem cellsU64 : Tryd.prog.cellsOf 120 = 1 := by kernel_rfl

theorem tab_of {W : World} (l : List (String × DataW Unit)) (e : l.filter (fun x => x.1 == "internal/strconv.uint64pow10") = [("internal/strconv.uint64pow10", Rows.laid_internal_strconv_uint64pow10)]) (h : laidMetH Tryd.prog l W) : Lib.TabIs Tryd.prog W "internal/strconv.uint64pow10" .u64 Lib.pow10Tab := by
  have h1 := h.filter (fun x => x.1 == "internal/strconv.uint64pow10")
  rw [e] at h1
  have h2 := Lib.tabIs_of_head (zs := [1, 10, 100, 1000, 10000, 100000, 1000000, 10000000, 100000000, 1000000000, 10000000000, 100000000000, 1000000000000, 10000000000000, 100000000000000, 1000000000000000, 10000000000000000, 100000000000000000, 1000000000000000000, 10000000000000000000]) (rest := []) gTab gTabType Tryd.underlying172 Tryd.underlying120 cellsU64 cellsTab h1
  have e2 : Lib.pow10Tab = [1, 10, 100, 1000, 10000, 100000, 1000000, 10000000, 100000000, 1000000000, 10000000000, 100000000000, 1000000000000, 10000000000000, 100000000000000, 1000000000000000, 10000000000000000, 100000000000000000, 1000000000000000000, 10000000000000000000] := by decide +kernel
  rw [e2]
  exact h2

/-- the table's block lies among the first -/
theorem tab_lt {W : World} (h : Lib.TabIs Tryd.prog W "internal/strconv.uint64pow10" .u64 Lib.pow10Tab) : 2 < W.heap.size := by
  rcases Nat.lt_or_ge 2 W.heap.size with h1 | h1
  · exact h1
  · unfold Lib.TabIs World.var? at h
    rw [gTab] at h
    simp [Array.getElem?_eq_none h1] at h

def put (cs : Array Value) : Obj → Obj
  | .cells _ t frozen => .cells cs t frozen
  | o => o

/-- a world for the witness: the tables hold what their initialisers lay -/
def laidOn (w : World) : World :=
  { w with heap := ((w.heap.modify 2 (put (([1, 10, 100, 1000, 10000, 100000, 1000000, 10000000, 100000000, 1000000000, 10000000000, 100000000000, 1000000000000, 10000000000000, 100000000000000, 1000000000000000, 10000000000000000, 100000000000000000, 1000000000000000000, 10000000000000000000] : List Int).map (Value.int .u64)).toArray)).modify 3 (put (([0, 1, 28, 2, 29, 14, 24, 3, 30, 22, 20, 15, 25, 17, 4, 8, 31, 27, 13, 23, 21, 19, 16, 7, 26, 12, 18, 6, 11, 5, 10, 9] : List Int).map (Value.int .u8)).toArray)).modify 4 (put (([0, 1, 56, 2, 57, 49, 28, 3, 61, 58, 42, 50, 38, 29, 17, 4, 62, 47, 59, 36, 45, 43, 51, 22, 53, 39, 33, 30, 24, 18, 12, 5, 63, 55, 48, 27, 60, 41, 37, 16, 46, 35, 44, 21, 52, 32, 23, 11, 54, 26, 40, 15, 34, 20, 31, 10, 25, 14, 19, 9, 13, 8, 7, 6] : List Int).map (Value.int .u8)).toArray) }
end Go.Proofs.YtiiihoejpmjfeaaDoor.Tb

/- What an argument of type []int, []api.Change holds, and how much of it there is by the statement's own count. -/
namespace Go.Proofs.YtiiihoejpmjfeaaDoor
open Go.ChangeShapes Go.WideShapes Go.ChangeAt Go.RowKit

theorem own : ownKnob Tryd.prog.godebug = none := by kernel_rfl
theorem laidOut : laidOutB Tryd.prog = true := by kernel_rfl
theorem cellsInt : Tryd.prog.cellsOf 3 = 1 := by kernel_rfl
theorem cellsCh : Tryd.prog.cellsOf 62 = 4 := by kernel_rfl

/-- numbers that an int holds -/
def w64 (z : Int) : Prop := -9223372036854775808 ≤ z ∧ z ≤ 9223372036854775807
theorem w64_of {z : Int} (h : (Lit.int .i64 z).wf = true) : w64 z := bounds_i64 h
/-- a change of numbers that an int holds -/
def wCh (c : Ch) : Prop := w64 c.A ∧ w64 c.AN ∧ w64 c.B ∧ w64 c.BN

theorem lits_len {H : Type} (l : List Int) : l.length ≤ Rows.uptoBulkAll (lits (H := H) .i64 l) := by
  induction l with
  | nil => simp [lits, Rows.uptoBulkAll]
  | cons s t ih =>
    have e : lits (H := H) .i64 (s :: t) = .lit (.int .i64 s) :: lits .i64 t := rfl
    rw [e]
    simp only [Rows.uptoBulkAll, Rows.uptoBulk, List.length_cons]
    omega

theorem bulk_range {H : Type} (D : Nat → DataW H) (n : Nat) (h : ∀ i, i < n → 1 ≤ Rows.uptoBulk (D i)) : n ≤ Rows.uptoBulkAll ((List.range n).map D) := by
  have hall : ∀ l : List (DataW H), (∀ d ∈ l, 1 ≤ Rows.uptoBulk d) → l.length ≤ Rows.uptoBulkAll l := by
    intro l
    induction l with
    | nil => simp
    | cons d t ih =>
      intro hd
      have h1 := hd d (List.mem_cons_self ..)
      have h2 := ih fun x hx => hd x (List.mem_cons_of_mem _ hx)
      rw [Rows.uptoBulkAll]
      simp only [List.length_cons]
      omega
  have := hall ((List.range n).map D) (by
    intro d hd
    simp only [List.mem_map, List.mem_range] at hd
    obtain ⟨i, hi, rfl⟩ := hd
    exact h i hi)
  simpa using this

set_option maxRecDepth 10000 in
/-- the changes that an argument holds -/
theorem open_chs {H : Type} {enc : TypeId × Value → H} {W : World} {fuel : Nat} {ao : Option Addr} {len cap : Nat} {d : DataW H} {p : List MemPlace}
    (h : DataW.trod enc Tryd.prog W 0 (fun _ => true) true fuel 22 [.slice ao len cap] = some (d, p)) :
    ∃ l : List Ch, HCh W (.slice ao len cap) l ∧ l.length ≤ Rows.uptoBulk d ∧ ∀ c ∈ l, wCh c := by
  rcases Go.Deep.open_slice Tryd.underlying22 h with ⟨hcs, hx⟩ | ⟨a, l, c, m, n, D, Pl, hcs, _, hl, hm, hmm, hx, hel⟩
  · simp at hcs
    obtain ⟨rfl, rfl, rfl⟩ := hcs
    exact ⟨[], .inl ⟨rfl, rfl, rfl⟩, by simp, by simp⟩
  · simp at hcs
    obtain ⟨rfl, rfl, rfl⟩ := hcs
    simp only [Prod.mk.injEq] at hx
    obtain ⟨rfl, _⟩ := hx
    have hlm : len ≤ m := by rw [hmm]; split <;> omega
    have each : ∀ i, i < len → ∃ c : Ch, wCh c ∧ W.cell? (a.add (i * 4)) = some (.int .i64 c.A) ∧ W.cell? (a.add (i * 4 + 1)) = some (.int .i64 c.AN) ∧ W.cell? (a.add (i * 4 + 2)) = some (.int .i64 c.B) ∧ W.cell? (a.add (i * 4 + 3)) = some (.int .i64 c.BN) ∧ 1 ≤ Rows.uptoBulk (D i) := by
      intro i hi
      obtain ⟨cs', h1, h2⟩ := hel i (by omega)
      rw [cellsCh] at h1
      obtain ⟨_, hlen, hcell⟩ := World.cells?_some h1
      obtain ⟨xs, k, hk, hxy, _, hxl, hf⟩ := DataW.trod_struct Tryd.underlying62 h2
      match xs, hxl, cs', hlen with
      | [y0, y1, y2, y3], _, [v0, v1, v2, v3], _ =>
        have g0 := hf 0 _ rfl
        have g1 := hf 1 _ rfl
        have g2 := hf 2 _ rfl
        have g3 := hf 3 _ rfl
        simp [cellsInt] at g0 g1 g2 g3
        obtain ⟨z0, e0, _, w0⟩ := DataW.trod_int Tryd.underlying3 g0
        obtain ⟨z1, e1, _, w1⟩ := DataW.trod_int Tryd.underlying3 g1
        obtain ⟨z2, e2, _, w2⟩ := DataW.trod_int Tryd.underlying3 g2
        obtain ⟨z3, e3, _, w3⟩ := DataW.trod_int Tryd.underlying3 g3
        cases e0
        cases e1
        cases e2
        cases e3
        have c0 := hcell 0 (by omega)
        have c1 := hcell 1 (by omega)
        have c2 := hcell 2 (by omega)
        have c3 := hcell 3 (by omega)
        rw [Go.Deep.add_add] at c0 c1 c2 c3
        simp only [Prod.mk.injEq] at hxy
        refine ⟨⟨z0, z1, z2, z3⟩, ⟨w64_of w0, w64_of w1, w64_of w2, w64_of w3⟩, by simpa using c0, by simpa using c1, by simpa using c2, by simpa using c3, ?_⟩
        rw [hxy.1, Rows.uptoBulk]
        omega
    have : Inhabited Ch := ⟨⟨0, 0, 0, 0⟩⟩
    obtain ⟨f, hf⟩ := Go.Deep.choose_lt each
    have hlen : ((List.range len).map f).length = len := by simp
    refine ⟨(List.range len).map f, .inr ⟨a, cap, by rw [hlen], by rw [hlen]; exact hl, fun j u hj => ?_⟩, ?_, ?_⟩
    · have hj' : j < len * 4 := by
        have := (List.getElem?_eq_some_iff.1 hj).1
        rw [chcells_length, hlen] at this
        exact this
      obtain ⟨h0, h1, h2, h3⟩ := chcells_at ((List.range len).map f) (j / 4) (by rw [hlen]; omega)
      obtain ⟨_, g0, g1, g2, g3, _⟩ := hf (j / 4) (by omega)
      simp only [List.getElem_map, List.getElem_range] at h0 h1 h2 h3
      rcases (by omega : j = 4 * (j / 4) ∨ j = 4 * (j / 4) + 1 ∨ j = 4 * (j / 4) + 2 ∨ j = 4 * (j / 4) + 3) with e | e | e | e
      · rw [e, h0] at hj
        rw [e, Nat.mul_comm, g0, hj]
      · rw [e, h1] at hj
        rw [e, Nat.mul_comm, g1, hj]
      · rw [e, h2] at hj
        rw [e, Nat.mul_comm, g2, hj]
      · rw [e, h3] at hj
        rw [e, Nat.mul_comm, g3, hj]
    · rw [hlen, Rows.uptoBulk]
      have := bulk_range D len fun i hi => (hf i hi).2.2.2.2.2
      omega
    · intro c hc
      simp only [List.mem_map, List.mem_range] at hc
      obtain ⟨i, hi, rfl⟩ := hc
      exact (hf i hi).1
end Go.Proofs.YtiiihoejpmjfeaaDoor

/- What an argument of type []string holds, and how much of it there is by the statement's own count. -/
namespace Go.Proofs.YtiiihoejpmjfeaaDoor
open Go.ChangeShapes Go.WideShapes Go.ChangeAt Go.RowKit

theorem cellsStr : Tryd.prog.cellsOf 9 = 1 := by kernel_rfl
theorem strs_bulk {H : Type} (l : List ByteArray) : l.length + (l.map fun s => s.data.toList).flatten.length ≤ Rows.uptoBulkAll (strs (H := H) l) := by
  induction l with
  | nil => simp [strs, Rows.uptoBulkAll]
  | cons s t ih =>
    have e : strs (H := H) (s :: t) = .lit (.string s.data.toList) :: strs t := rfl
    rw [e, Rows.uptoBulkAll, Rows.uptoBulk]
    simp only [List.length_cons, List.map_cons, List.flatten_cons, List.length_append] at ih ⊢
    omega

/-- the texts that an argument holds -/
theorem open_texts {H : Type} {enc : TypeId × Value → H} {W : World} {fuel : Nat} {ao : Option Addr} {len cap : Nat} {d : DataW H} {p : List MemPlace}
    (h : DataW.trod enc Tryd.prog W 0 (fun _ => true) true fuel 23 [.slice ao len cap] = some (d, p)) :
    ∃ ws : List (List UInt8), HS W (.slice ao len cap) ws ∧ ws.length + ws.flatten.length ≤ Rows.uptoBulk d := by
  rcases open_strings Tryd.underlying23 Tryd.underlying9 cellsStr h with ⟨hcs, hx⟩ | ⟨a, l, c, ss, hcs, _, hl, hm, hz, hx, hcell, _⟩
  · simp at hcs
    obtain ⟨rfl, rfl, rfl⟩ := hcs
    exact ⟨[], .inl ⟨rfl, rfl, rfl⟩, by simp⟩
  · simp at hcs
    obtain ⟨rfl, rfl, rfl⟩ := hcs
    simp at hz
    simp only [Prod.mk.injEq] at hx
    obtain ⟨rfl, _⟩ := hx
    have hlen : ((ss.take len).map fun s => s.data.toList).length = len := by simp; omega
    refine ⟨(ss.take len).map fun s => s.data.toList, .inr ⟨a, cap, by rw [hlen], by omega, fun j u hj => ?_⟩, ?_⟩
    · have hj' : j < len := by
        have := (List.getElem?_eq_some_iff.1 hj).1
        rw [scells_length, hlen] at this
        exact this
      rw [hcell j (by omega)]
      have hjs : j < ss.length := by omega
      simp [scells, hj', hjs] at hj
      simp [List.getD, hjs, ← hj]
    · have := strs_bulk (H := H) (ss.take len)
      rw [Rows.uptoBulk]
      simp only [List.length_map] at this ⊢
      omega
end Go.Proofs.YtiiihoejpmjfeaaDoor
