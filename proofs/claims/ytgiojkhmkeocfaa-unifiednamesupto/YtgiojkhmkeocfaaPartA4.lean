/-
  Texts that belong together, joined: HuRow, HuRf1, HuRf2, HuRf3, PcReg, HuRf4, HuRf5, HuRf6, HuRf7, PcLs, HuOwn, HuC1, HuIv.
-/
import Derived.Test.YtgiojkhmkeocfaaPartA3
import Derived.Test.YtgiojkhmkeocfaaPartA2
import Derived.Deep.CutRange
import Derived.Deep.DeepCutAuto
import Derived.Laws.Rows

/- Lines with signs and hunks as cells: what slices of them hold; hunks in a box; append onto an owned row of hunks. -/
namespace Go.Proofs.Ytgiojkhmkeocfaa
open Go.RowKit

def mkC (m : Mk) : List Value := [.int .u8 m.sg, .string ⟨m.tx.toArray⟩]
def mkcells (l : List Mk) : List Value := l.flatMap mkC
theorem mkcells_length (l : List Mk) : (mkcells l).length = l.length * 2 := by
  induction l with
  | nil => rfl
  | cons c l ih => simp only [mkcells, List.flatMap_cons, List.length_append, List.length_cons] at ih ⊢; rw [ih]; simp [mkC]; omega
theorem mkcells_append (a b : List Mk) : mkcells (a ++ b) = mkcells a ++ mkcells b := by simp [mkcells]
theorem mkcells_one (l : List Mk) : ∀ u ∈ mkcells l, u.oneCell' = true := by
  intro u hu
  simp only [mkcells, List.mem_flatMap, mkC] at hu
  obtain ⟨c, _, h⟩ := hu
  simp only [List.mem_cons, List.not_mem_nil, or_false] at h
  rcases h with rfl | rfl <;> rfl
theorem mkcells_at (l : List Mk) (k : Nat) (hk : k < l.length) : (mkcells l)[2 * k]? = some (.int .u8 l[k].sg) ∧ (mkcells l)[2 * k + 1]? = some (.string ⟨l[k].tx.toArray⟩) := by
  induction l generalizing k with
  | nil => simp at hk
  | cons c l ih =>
    cases k with
    | zero => simp [mkcells, mkC]
    | succ k =>
      have h := ih k (by simpa using hk)
      have e : ∀ i, (mkcells (c :: l))[2 * (k + 1) + i]? = (mkcells l)[2 * k + i]? := by
        intro i
        have : mkcells (c :: l) = mkC c ++ mkcells l := rfl
        rw [this, List.getElem?_append_right (by simp [mkC]; omega)]
        congr 1
        simp [mkC]; omega
      simp only [List.getElem_cons_succ]
      refine ⟨by rw [← (h).1]; exact e 0, by rw [← h.2]; exact e 1⟩
/-- a slice of lines with signs -/
def HMk (w : World) (v : Value) (l : List Mk) : Prop := Holds w v l.length (mkcells l)
theorem HMk.keep {w w' : World} {v : Value} {l : List Mk} (h : HMk w v l) {N : Nat} (hk : Below N w w') (hN : w.heap.size ≤ N) : HMk w' v l := Holds.keep h fun k hk' => hk.block k (by omega)
theorem HMk.at {w : World} {ao : Option Addr} {n c : Nat} {l : List Mk} (h : HMk w (.slice ao n c) l) (h0 : 0 < l.length) : ∃ b off, ao = some ⟨b, off, none⟩ ∧ b < w.heap.size ∧
    ∀ k (hk : k < l.length), w.cell? ⟨b, off + k * 2, none⟩ = some (.int .u8 l[k].sg) ∧ w.cell? ⟨b, off + k * 2 + 1, none⟩ = some (.string ⟨l[k].tx.toArray⟩) := by
  obtain ⟨b, off, c', hv, hb, hc⟩ := Holds.at h (by rw [mkcells_length]; omega)
  cases hv
  refine ⟨b, off, rfl, hb, fun k hk => ?_⟩
  obtain ⟨h0, h1⟩ := mkcells_at l k hk
  have hlen := mkcells_length l
  have e : k * 2 = 2 * k := by omega
  rw [e]
  refine ⟨?_, ?_⟩
  · have := hc (2 * k) (by omega)
    rw [← h0, this, List.getElem?_eq_getElem]
  · have := hc (2 * k + 1) (by omega)
    rw [← h1, Nat.add_assoc, this, List.getElem?_eq_getElem]
theorem Low.mk {W w : World} (h : Low W w) {b off n c : Nat} {l : List Mk} (hl : HMk W (.slice (some ⟨b, off, none⟩) n c) l) (k : Nat) (hk : k < l.length) {x : Mk} (hx : l[k] = x) : w.cell? ⟨b, off + k * 2, none⟩ = some (.int .u8 x.sg) ∧ w.cell? ⟨b, off + k * 2 + 1, none⟩ = some (.string ⟨x.tx.toArray⟩) := by
  obtain ⟨b', off', e, _, hc⟩ := HMk.at (HMk.keep hl h (Nat.le_refl _)) (by omega)
  cases e
  rw [← hx]
  exact hc k hk
/-- a hunk as a value, in a box -/
def hkV (h : Hk) (v : Value) : Value := .agg #[.int .i64 h.A, .int .i64 h.AN, .int .i64 h.B, .int .i64 h.BN, v]
def hkC (h : Hk) (v : Value) : List Value := [.int .i64 h.A, .int .i64 h.AN, .int .i64 h.B, .int .i64 h.BN, v]
section
variable {u u' : World} {b : Nat} {h : Hk} {v : Value}
end
/-- hunks in a row: each with the slice of its lines -/
def hkcells : List (Hk × Value) → List Value
  | [] => []
  | (h, v) :: l => hkC h v ++ hkcells l
theorem hkcells_length (l : List (Hk × Value)) : (hkcells l).length = l.length * 5 := by
  induction l with
  | nil => rfl
  | cons c l ih =>
    obtain ⟨h, v⟩ := c
    simp only [hkcells, List.length_append, List.length_cons]
    rw [ih]
    simp [hkC]; omega
theorem hkcells_append (a b : List (Hk × Value)) : hkcells (a ++ b) = hkcells a ++ hkcells b := by
  induction a with
  | nil => rfl
  | cons c l ih =>
    obtain ⟨h, v⟩ := c
    simp only [List.cons_append, hkcells, ih, List.append_assoc]
theorem hkcells_at (l : List (Hk × Value)) (k : Nat) (hk : k < l.length) : (hkcells l)[5 * k]? = some (.int .i64 l[k].1.A) ∧ (hkcells l)[5 * k + 1]? = some (.int .i64 l[k].1.AN) ∧ (hkcells l)[5 * k + 2]? = some (.int .i64 l[k].1.B) ∧ (hkcells l)[5 * k + 3]? = some (.int .i64 l[k].1.BN) ∧ (hkcells l)[5 * k + 4]? = some l[k].2 := by
  induction l generalizing k with
  | nil => simp at hk
  | cons c l ih =>
    obtain ⟨x, y⟩ := c
    cases k with
    | zero => simp [hkcells, hkC]
    | succ k =>
      have h := ih k (by simpa using hk)
      have e : ∀ i, (hkcells ((x, y) :: l))[5 * (k + 1) + i]? = (hkcells l)[5 * k + i]? := by
        intro i
        have : hkcells ((x, y) :: l) = hkC x y ++ hkcells l := rfl
        rw [this, List.getElem?_append_right (by simp [hkC]; omega)]
        congr 1
        simp [hkC]; omega
      simp only [List.getElem_cons_succ]
      refine ⟨by rw [← (h).1]; exact e 0, by rw [← h.2.1]; exact e 1, by rw [← h.2.2.1]; exact e 2, by rw [← h.2.2.2.1]; exact e 3, by rw [← h.2.2.2.2]; exact e 4⟩
/-- a slice of hunks; p: the hunks, each with the slice of its lines -/
structure HHp (w : World) (v : Value) (p : List (Hk × Value)) : Prop where
  row : Holds w v p.length (hkcells p)
  ins : ∀ x ∈ p, HMk w x.2 x.1.ls
def HHk (w : World) (v : Value) (l : List Hk) : Prop := ∃ p : List (Hk × Value), p.map (·.1) = l ∧ HHp w v p
theorem HHp.keep {w w' : World} {v : Value} {p : List (Hk × Value)} (h : HHp w v p) {N : Nat} (hk : Below N w w') (hN : w.heap.size ≤ N) : HHp w' v p :=
  ⟨Holds.keep h.row fun k hk' => hk.block k (by omega), fun x hx => HMk.keep (h.ins x hx) hk hN⟩
theorem HHk.keep {w w' : World} {v : Value} {l : List Hk} (h : HHk w v l) {N : Nat} (hk : Below N w w') (hN : w.heap.size ≤ N) : HHk w' v l := by
  obtain ⟨p, hp, h⟩ := h
  exact ⟨p, hp, h.keep hk hN⟩
theorem HHp.at {w : World} {ao : Option Addr} {n c : Nat} {l : List (Hk × Value)} (h : HHp w (.slice ao n c) l) (h0 : 0 < l.length) : ∃ b off, ao = some ⟨b, off, none⟩ ∧ b < w.heap.size ∧
    ∀ k (hk : k < l.length), w.cell? ⟨b, off + k * 5, none⟩ = some (.int .i64 l[k].1.A) ∧ w.cell? ⟨b, off + k * 5 + 1, none⟩ = some (.int .i64 l[k].1.AN) ∧ w.cell? ⟨b, off + k * 5 + 2, none⟩ = some (.int .i64 l[k].1.B) ∧ w.cell? ⟨b, off + k * 5 + 3, none⟩ = some (.int .i64 l[k].1.BN) ∧ w.cell? ⟨b, off + k * 5 + 4, none⟩ = some l[k].2 := by
  obtain ⟨b, off, c', hv, hb, hc⟩ := Holds.at h.row (by rw [hkcells_length]; omega)
  cases hv
  refine ⟨b, off, rfl, hb, fun k hk => ?_⟩
  obtain ⟨h0, h1, h2, h3, h4⟩ := hkcells_at l k hk
  have hlen := hkcells_length l
  have e : k * 5 = 5 * k := by omega
  rw [e]
  refine ⟨?_, ?_, ?_, ?_, ?_⟩
  · have := hc (5 * k) (by omega)
    rw [← h0, this, List.getElem?_eq_getElem]
  · have := hc (5 * k + 1) (by omega)
    rw [← h1, Nat.add_assoc, this, List.getElem?_eq_getElem]
  · have := hc (5 * k + 2) (by omega)
    rw [← h2, Nat.add_assoc, this, List.getElem?_eq_getElem]
  · have := hc (5 * k + 3) (by omega)
    rw [← h3, Nat.add_assoc, this, List.getElem?_eq_getElem]
  · have := hc (5 * k + 4) (by omega)
    rw [← h4, Nat.add_assoc, this, List.getElem?_eq_getElem]
theorem HMk.form {w : World} {v : Value} {l : List Mk} (h : HMk w v l) : ∃ ao c, v = .slice ao l.length c := Holds.form h
theorem hkcells_one {w : World} (l : List (Hk × Value)) (h : ∀ x ∈ l, HMk w x.2 x.1.ls) : ∀ u ∈ hkcells l, u.oneCell' = true := by
  induction l with
  | nil => simp [hkcells]
  | cons c l ih =>
    obtain ⟨x, y⟩ := c
    intro u hu
    simp only [hkcells, hkC, List.mem_append, List.mem_cons, List.not_mem_nil, or_false] at hu
    rcases hu with (rfl | rfl | rfl | rfl | rfl) | hu
    · rfl
    · rfl
    · rfl
    · rfl
    · obtain ⟨ao, c, hv⟩ := (h (x, u) (by simp)).form
      dsimp only at hv
      rw [hv]
      rfl
    · exact ih (fun x hx => h x (by simp [hx])) u hu

theorem run_append_w (w : World) (T E ty : TypeId) (z : Value) (size bytes : Nat) (hT : Try.prog.underlying T = some (.slice E)) (hinfo : (Try.prog.info? E).map (fun i => (i.zero, i.size, i.bytes)) = some (some z, size, bytes)) (hz1 : z.cells.size = size) (hsz : 0 < size) (hby : bytes ≤ 64)
    (base : Nat) (v : Value) (k : Nat) (xs : List Value) (hown : w.ownsRow base E size v k xs) (vx : Value) (m : Nat) (news : List Value) (hh : Holds w vx m news) (hl : news.length = m * size)
    (h1 : ∀ u ∈ news, u.oneCell' = true) (hk : k + m ≤ 2199023255552) (hbase : base ≤ w.heap.size) :
    ∃ v' w', (Builtin.append_ #[T, T] ty #[v, vx]).run Try.prog w = .ok v' w' ∧ w'.ownsRow base E size v' (k + m) (xs ++ news) ∧ w.grownBy w' v.ownBlock ∧ (v'.ownBlock = v.ownBlock ∨ v'.ownBlock = some w.heap.size) := by
  obtain ⟨i0, hi0, hz0, hzs, hz2⟩ := info_parts hinfo
  rcases hh with ⟨rfl, rfl, rfl⟩ | ⟨ad, c, rfl, _, hc⟩
  · exact ⟨v, w, run_append_owned_none (P := Try.prog) (w := w) base T ty E i0 size hT hi0 v k xs hown, by simpa using hown, World.grownBy.refl _ _, .inl rfl⟩
  · obtain ⟨v', w', hr, h2, h3, _, h5⟩ := run_append_own_at (P := Try.prog) w base T ty E i0 z size bytes hT hi0 hz0 hzs hz2 hz1 hsz v k xs hown ad m c news hl hc h1 (by unfold maxLen; omega) (by
      have : (k + m) * bytes ≤ (k + m) * 64 := Nat.mul_le_mul_left _ hby
      omega) hbase
    exact ⟨v', w', hr, h2, h3, h5⟩
theorem wpList_append_w {ops : Array Oper} {rest : List Oper} {o : Oper} {a : Act} {Q : Exit → Act → World → Prop} (w : World) (hw : Region.wanted o (yielded ops a.tmps) = true) (s x : Operand) (T E : TypeId) (z : Value) (size bytes : Nat)
    (ho : o.op = .call { callee := .builtin .append, args := #[s, x], argTypes := #[T, T] }) (hT : Try.prog.underlying T = some (.slice E)) (hinfo : (Try.prog.info? E).map (fun i => (i.zero, i.size, i.bytes)) = some (some z, size, bytes)) (hz1 : z.cells.size = size) (hsz : 0 < size) (hby : bytes ≤ 64)
    (base : Nat) (v : Value) (k : Nat) (xs : List Value) (hs : a.eval s = v) (hown : w.ownsRow base E size v k xs) (vx : Value) (m : Nat) (news : List Value) (hx : a.eval x = vx) (hh : Holds w vx m news) (hl : news.length = m * size)
    (h1 : ∀ u ∈ news, u.oneCell' = true) (hk : k + m ≤ 2199023255552) (hbase : base ≤ w.heap.size)
    (h : ∀ v' w', w'.ownsRow base E size v' (k + m) (xs ++ news) → w.grownBy w' v.ownBlock → (v'.ownBlock = v.ownBlock ∨ v'.ownBlock = some w.heap.size) → wpList Try.prog ops Q rest (a.put o.dst v') w') : wpList Try.prog ops Q (o :: rest) a w := by
  refine wpList_step fun K hK => ?_
  rw [if_pos hw]
  obtain ⟨v', w', hr, h2, h3, h4⟩ := run_append_w w T E o.type z size bytes hT hinfo hz1 hsz hby base v k xs hown vx m news hh hl h1 hk hbase
  unfold Oper.wp
  simp [execOp, ho, resolve, invoke, builtin, hs, hx, hr, Result.andThen]
  exact hK _ _ (h v' w' h2 h3 h4)
theorem hnil_row (w : World) (base : Nat) (e : TypeId) (s : Nat) : w.ownsRow base e s (.slice none 0 0) 0 [] := ⟨by simp, .inl ⟨rfl, rfl⟩⟩
end Go.Proofs.Ytgiojkhmkeocfaa

/- The reference's small functions of layer 11, walked: numbers, places, lines, the lines of a side. -/
namespace Go.Proofs.Ytgiojkhmkeocfaa
open Go.RowKit

/-- a line's bytes, one by one -/
theorem lin_at {s : List UInt8} (hs : s ≠ []) : linB s = true ↔ ∀ (j : Nat) (hj : j + 1 < s.length), s[j] ≠ 10 := by
  unfold linB
  have e1 : s.isEmpty = false := by cases s with | nil => exact absurd rfl hs | cons => rfl
  rw [e1]
  simp only [Bool.not_false, Bool.true_and, List.all_eq_true]
  constructor
  · intro h j hj
    have := h s[j] (by
      rw [List.mem_iff_getElem]
      exact ⟨j, by simp; omega, by simp⟩)
    simpa using this
  · intro h c hc
    rw [List.mem_iff_getElem] at hc
    obtain ⟨j, hj, rfl⟩ := hc
    simp at hj
    have := h j (by omega)
    simpa using this
end Go.Proofs.Ytgiojkhmkeocfaa

/- The reference's line, last of layer 11, walked. -/
namespace Go.Proofs.Ytgiojkhmkeocfaa
open Go.RowKit

theorem bat (l : List UInt8) (k : Nat) (h : k < (⟨l.toArray⟩ : ByteArray).size) : (⟨l.toArray⟩ : ByteArray)[k]'h = l[k]'(h) := rfl
attribute [local go_sem] bat ByteArray.extract_mk
theorem is_feed {x : UInt8} (h : x = 10) : ((x.toNat : Int) == 10) = true := by subst h; rfl
theorem no_feed {x : UInt8} (h : x ≠ 10) : ((x.toNat : Int) == 10) = false := by
  have : x.toNat ≠ 10 := fun e => h (UInt8.toNat_inj.1 e)
  rw [beq_eq_false_iff_ne]; omega
theorem idx_s (L : List UInt8) (i : Int) (k : Nat) (hk : k < L.length) (hi : i = k) (w : World) :
    (Instr.index 9 (.string ⟨L.toArray⟩) (.int .i64 i)).run Try.prog w = .ok (.int .u8 (L[k].toNat : Int)) w := by
  subst hi
  rw [run_index_string w 9 ⟨L.toArray⟩ .i64 (k : Int) Try.underlying9]
  have hs : (⟨L.toArray⟩ : ByteArray).size = L.length := rfl
  rw [dif_pos ⟨by omega, by rw [hs]; omega⟩]
  rfl
theorem wrap_s {n : Int} (h0 : -9223372036854775808 ≤ n) (h1 : n ≤ 9223372036854775807) : IntKind.i64.wrap n = n := by
  simp [IntKind.wrap, IntKind.bits, IntKind.signed]
  split <;> omega
theorem fd_last {s : List UInt8} (h : 0 < s.length) : fdB s = (s[s.length - 1] == 10) := by
  unfold fdB
  rw [List.getLast?_eq_getElem?, List.getElem?_eq_getElem (by omega)]
  rfl

end Go.Proofs.Ytgiojkhmkeocfaa

/- The reference's fields of layer 11, walked. -/
namespace Go.Proofs.Ytgiojkhmkeocfaa
open Go.RowKit

section
variable {u u' : World} {b : Nat} {m : Mk}
end
end Go.Proofs.Ytgiojkhmkeocfaa

/- Steps of a region that draws its order, taken one by one where a guard says no: reads, calls by their contracts. -/
namespace Go.Proofs.Ytgiojkhmkeocfaa
open Go.RowKit

theorem step_want {b : Bool} {X Y : Prop} (h : b = true) (hX : X) : if b = true then X else Y := by
  rw [if_pos h]
  exact hX
theorem step_none {b : Bool} {X Y : Prop} (h : b = false) (hY : Y) : if b = true then X else Y := by
  rw [if_neg (by rw [h]; exact Bool.false_ne_true)]
  exact hY
/-- an operation that reads alone, or is not wanted, from one stage of the region to the next -/
theorem go_take {P : Program} {S : World → Prop} {md : Region.Mode} {ops : Array Oper} {Q : Exit → Act → World → Prop} {fuel : Nat} {listed : Array Bool} {A : Act} {w : World}
    (i d : Nat) (op : Oper) (v : Value) (hi : ops[i]? = some op) (hd : op.dst = some d) (hs : Region.noSelect ops = true) (hf : Region.free md ops listed i = true) (hr : (Region.ready md ops listed).contains i = true)
    (hQ : ∀ c a w, Q (.panic c) (a.put op.dst v) w → Q (.panic c) a w) (hy : YieldsIf P ops S op v A) (hS : S w)
    (h : wpAnyH P md ops Q S fuel (listed.setIfInBounds i true) (A.put (some d) v) w) : wpAnyH P md ops Q S (fuel + 1) listed A w :=
  wpAnyH_take hi hs hf hr hQ hy hS (by rw [hd]; exact h)
/-- an operation that is not wanted, where nothing else may come up -/
theorem go_none {P : Program} {S : World → Prop} {md : Region.Mode} {ops : Array Oper} {Q : Exit → Act → World → Prop} {fuel : Nat} {listed : Array Bool} {A : Act} {w : World}
    (i d : Nat) (op : Oper) (hi : ops[i]? = some op) (hd : op.dst = some d) (hr : Region.ready md ops listed = [i]) (hwt : Region.wanted op (yielded ops A.tmps) = false) (hS : S w)
    (h : wpAnyH P md ops Q S fuel (listed.setIfInBounds i true) (A.put (some d) undef) w) :
    wpAnyH P md ops Q S (fuel + 1) listed A w := by
  refine wpAnyH_ready hr (by simp) (AllReadyH.cons hi (fun K hK => ?_) AllReadyH.nil)
  refine step_none hwt ?_
  exact hK.out _ _ hS (fun _ => by rw [hd]; exact h)
/-- a call by its contract, where nothing else may come up -/
theorem go_callH {P : Program} {S : World → Prop} {md : Region.Mode} {ops : Array Oper} {Q : Exit → Act → World → Prop} {fuel : Nat} {listed : Array Bool} {A : Act} {w : World}
    (i d : Nat) (op : Oper) (hi : ops[i]? = some op) (hd : op.dst = some d) (hr : Region.ready md ops listed = [i]) (hwt : Region.wanted op (yielded ops A.tmps) = true)
    (F : Nat) (xs : Array Operand) (ts : Array TypeId) (ho : op.op = .call { callee := .value (.func F), args := xs, argTypes := ts })
    (args : Array Value) (hx : xs.map A.eval = args) (hen : ∀ args w, (callFunc F args).run P w = .ok (.enter F args) w) (v : Value)
    (hc : Calls P F args w fun e w' => e = .returned v ∧ S w')
    (h : ∀ w', S w' → wpAnyH P md ops Q S fuel (listed.setIfInBounds i true) (A.put (some d) v) w') :
    wpAnyH P md ops Q S (fuel + 1) listed A w := by
  refine wpAnyH_ready hr (by simp) (AllReadyH.cons hi (fun K hK => ?_) AllReadyH.nil)
  refine step_want hwt ?_
  unfold Oper.wp
  have e : (execOp A.eval op).run P w = .ok (.enter F args) w := by
    have h1 := hen args w
    simp only [execOp, ho, resolve, invoke]
    have h2 : A.eval (.func F) = .func (.func F) #[] #[] := rfl
    simp only [h2, Deferred.ofValue, Sem.run_bind, Sem.run_pure, Result.andThen_ok, hx, Array.append_empty, Array.empty_append]
    exact h1
  rw [e, Oper.upon_enter]
  refine hc.mono ?_
  rintro e w' ⟨rfl, hb⟩
  exact hK.out _ _ hb (fun hu => by rw [hd]; exact h w' hu)
/-- a call of whatever function value by its contract, where nothing else may come up; R: what is told of what is answered -/
theorem go_callE {P : Program} {S : World → Prop} {md : Region.Mode} {ops : Array Oper} {Q : Exit → Act → World → Prop} {fuel : Nat} {listed : Array Bool} {A : Act} {w : World}
    (i d : Nat) (op : Oper) (hi : ops[i]? = some op) (hd : op.dst = some d) (hr : Region.ready md ops listed = [i]) (hwt : Region.wanted op (yielded ops A.tmps) = true)
    (F : Nat) (x : Operand) (xs : Array Operand) (ts : Array TypeId) (ho : op.op = .call { callee := .value x, args := xs, argTypes := ts })
    (cap : Array Value) (hxv : A.eval x = .func (.func F) #[] cap) (args : Array Value) (hx : xs.map A.eval = args) (hen : ∀ args w, (callFunc F args).run P w = .ok (.enter F args) w) (R : Value → World → Prop)
    (hc : Calls P F (args ++ cap) w fun e w' => ∃ v, e = .returned v ∧ S w' ∧ R v w')
    (h : ∀ v w', S w' → R v w' → wpAnyH P md ops Q S fuel (listed.setIfInBounds i true) (A.put (some d) v) w') :
    wpAnyH P md ops Q S (fuel + 1) listed A w := by
  refine wpAnyH_ready hr (by simp) (AllReadyH.cons hi (fun K hK => ?_) AllReadyH.nil)
  refine step_want hwt ?_
  unfold Oper.wp
  have e : (execOp A.eval op).run P w = .ok (.enter F (args ++ cap)) w := by
    have h1 := hen (args ++ cap) w
    simp only [execOp, ho, resolve, invoke]
    simp only [hxv, Deferred.ofValue, Sem.run_bind, Sem.run_pure, Result.andThen_ok, hx, Array.empty_append]
    exact h1
  rw [e, Oper.upon_enter]
  refine hc.mono ?_
  rintro e w' ⟨v, rfl, hb, hR⟩
  exact hK.out _ _ hb (fun hu => by rw [hd]; exact h v w' hu hR)
/-- an operation that yields a value, whatever it does to memory, where nothing else may come up -/
theorem go_val {P : Program} {S : World → Prop} {md : Region.Mode} {ops : Array Oper} {Q : Exit → Act → World → Prop} {fuel : Nat} {listed : Array Bool} {A : Act} {w : World}
    (i d : Nat) (op : Oper) (hi : ops[i]? = some op) (hd : op.dst = some d) (hr : Region.ready md ops listed = [i]) (hwt : Region.wanted op (yielded ops A.tmps) = true)
    (v : Value) (w' : World) (he : (execOp A.eval op).run P w = .ok (.value v) w') (hS : S w')
    (h : wpAnyH P md ops Q S fuel (listed.setIfInBounds i true) (A.put (some d) v) w') :
    wpAnyH P md ops Q S (fuel + 1) listed A w := by
  refine wpAnyH_ready hr (by simp) (AllReadyH.cons hi (fun K hK => ?_) AllReadyH.nil)
  refine step_want hwt ?_
  unfold Oper.wp
  rw [he, Oper.upon_value]
  exact hK.out _ _ hS (fun _ => by rw [hd]; exact h)
/-- a store, where nothing else may come up -/
theorem go_skip {P : Program} {S : World → Prop} {md : Region.Mode} {ops : Array Oper} {Q : Exit → Act → World → Prop} {fuel : Nat} {listed : Array Bool} {A : Act} {w : World}
    (i : Nat) (op : Oper) (hi : ops[i]? = some op) (hd : op.dst = none) (hr : Region.ready md ops listed = [i]) (hwt : Region.wanted op (yielded ops A.tmps) = true)
    (w' : World) (he : (execOp A.eval op).run P w = .ok .skip w') (hS : S w')
    (h : wpAnyH P md ops Q S fuel (listed.setIfInBounds i true) A w') :
    wpAnyH P md ops Q S (fuel + 1) listed A w := by
  refine wpAnyH_ready hr (by simp) (AllReadyH.cons hi (fun K hK => ?_) AllReadyH.nil)
  refine step_want hwt ?_
  unfold Oper.wp
  rw [he, Oper.upon_skip]
  exact hK.out _ _ hS (fun _ => by rw [hd]; exact h)
/-- a number, a slice, a function value is read -/
theorem load_int {u : World} {a : Addr} {z : Int} (h : u.cell? a = some (.int .i64 z)) {op : Oper} (x : Operand) (ho : op.op = .load 3 x) {ev : Operand → Value} (hx : ev x = .pointer (some a)) :
    (execOp ev op).run Try.prog u = .ok (.value (.int .i64 z)) u := by
  simp only [execOp, ho, hx]
  go_simp
end Go.Proofs.Ytgiojkhmkeocfaa

/- The reference's Check of layer 11, walked. -/
namespace Go.Proofs.Ytgiojkhmkeocfaa
open Go.RowKit

end Go.Proofs.Ytgiojkhmkeocfaa

/- The reference's Order of layer 11, walked. -/
namespace Go.Proofs.Ytgiojkhmkeocfaa
open Go.RowKit

/-- hunks of lengths that can be gone through -/
def HOk (p : List (Hk × Value)) : Prop := p.length ≤ 1099511627776 ∧ ∀ x ∈ p, x.1.ls.length ≤ 1099511627776 ∧ ∀ m ∈ x.1.ls, m.tx.length ≤ 1099511627776
/-- a hunk of a row, read -/
theorem HHp.take {w W : World} {b off n c : Nat} {p : List (Hk × Value)} (h : HHp w (.slice (some ⟨b, off, none⟩) n c) p) (hB : Below w.heap.size w W) (k : Nat) (hk : k < p.length) {x : Hk} {y : Value} (hx : p[k] = (x, y)) : (W.cell? ⟨b, off + k * 5, none⟩ = some (.int .i64 x.A) ∧ W.cell? ⟨b, off + k * 5 + 1, none⟩ = some (.int .i64 x.AN) ∧ W.cell? ⟨b, off + k * 5 + 2, none⟩ = some (.int .i64 x.B) ∧ W.cell? ⟨b, off + k * 5 + 3, none⟩ = some (.int .i64 x.BN) ∧ W.cell? ⟨b, off + k * 5 + 4, none⟩ = some y) ∧ HMk W y x.ls := by
  have h2 := h.keep hB (Nat.le_refl _)
  obtain ⟨b', off', e, _, hc⟩ := h2.at (by omega)
  cases e
  have := hc k hk
  rw [hx] at this
  refine ⟨this, ?_⟩
  have hi := h2.ins p[k] (List.getElem_mem hk)
  rw [hx] at hi
  exact hi
theorem errs_drop {l : List Hk} {k : Nat} (hk : k < l.length) : errs (l.drop k) = if chkH l[k] ≠ 0 then chkH l[k] else errs (l.drop (k + 1)) := by
  rw [List.drop_eq_getElem_cons hk]
  rfl
theorem ord_ok {l : List Hk} (h : errs l = 0) : ordH l = if ordB 0 0 l = true then 0 else 121 := by
  unfold ordH
  rw [h]
  simp
theorem ord_err {l : List Hk} {z : Int} (h : errs l = z) (hz : z ≠ 0) : ordH l = z := by
  unfold ordH
  rw [h, if_pos hz]
theorem errs_ok {l : List Hk} (h : errs l = 0) : ∀ x ∈ l, chkH x = 0 := by
  induction l with
  | nil => intro x hx; cases hx
  | cons y l ih =>
    simp only [errs] at h
    by_cases hy : chkH y ≠ 0
    · rw [if_pos hy] at h
      exact absurd h hy
    · rw [if_neg hy] at h
      intro x hx
      rcases List.mem_cons.1 hx with rfl | hx
      · simpa using hy
      · exact ih h x hx
/-- the numbers of a right hunk -/
theorem chk_num {h : Hk} (hc : chkH h = 0) : (0 ≤ h.A ∧ h.A ≤ 2147483647) ∧ (0 ≤ h.AN ∧ h.AN ≤ 2147483647) ∧ (0 ≤ h.B ∧ h.B ≤ 2147483647) ∧ (0 ≤ h.BN ∧ h.BN ≤ 2147483647) := by
  have hr : rngB h = true := by
    cases hq : rngB h with
    | true => rfl
    | false => simp [chkH, hq] at hc
  simp only [rngB, Bool.and_eq_true, nat31, decide_eq_true_eq] at hr
  omega
theorem at_num {h : Hk} (hc : chkH h = 0) : (-1 ≤ atA h ∧ atA h ≤ 2147483647) ∧ (-1 ≤ atB h ∧ atB h ≤ 2147483647) := by
  have := chk_num hc
  unfold atA atB
  split <;> split <;> omega

end Go.Proofs.Ytgiojkhmkeocfaa

/- The reference's Same, SameHunks of layer 11, walked: hunks that are the same. -/
namespace Go.Proofs.Ytgiojkhmkeocfaa
open Go.RowKit

end Go.Proofs.Ytgiojkhmkeocfaa

/- The reference's SameHunks of layer 11, walked: rows of hunks that are the same; steps by hand. -/
namespace Go.Proofs.Ytgiojkhmkeocfaa
open Go.RowKit

/-- the cells of a hunk in a row -/
def HkAt (u : World) (b o : Nat) (x : Hk) (y : Value) : Prop := u.cell? ⟨b, o, none⟩ = some (.int .i64 x.A) ∧ u.cell? ⟨b, o + 1, none⟩ = some (.int .i64 x.AN) ∧ u.cell? ⟨b, o + 2, none⟩ = some (.int .i64 x.B) ∧ u.cell? ⟨b, o + 3, none⟩ = some (.int .i64 x.BN) ∧ u.cell? ⟨b, o + 4, none⟩ = some y
theorem HkAt.low {u u' : World} {b o : Nat} {x : Hk} {y : Value} (h : HkAt u b o x y) (hB : Low u u') : HkAt u' b o x y := by
  have key : ∀ (q : Addr) (z : Value), u.cell? q = some z → u'.cell? q = some z := fun q z hz => (World.cell?_of_block (w := u) (Below.block hB _ (World.block_lt_of_cell? _ _ hz))).trans hz
  exact ⟨key _ _ h.1, key _ _ h.2.1, key _ _ h.2.2.1, key _ _ h.2.2.2.1, key _ _ h.2.2.2.2⟩
end Go.Proofs.Ytgiojkhmkeocfaa

/- A row of numbers of one's own, at a known block: what is kept. -/
namespace Go.Proofs.Ytgiojkhmkeocfaa
open Go.RowKit

/-- the state of the walk -/
structure Ls (w : World) (g n : Nat) (Z : List Int) (u : World) : Prop where
  low : Below w.heap.size w u
  own : u.ownsRow w.heap.size 3 1 (.slice (some ⟨g, 0, none⟩) n n) n (icells Z)
theorem Ls.drewN {w u : World} {g n : Nat} {Z : List Int} (h : Ls w g n Z u) (k : Nat) : Ls w g n Z (u.drewN k) := ⟨Below.dN h.low k, h.own⟩
theorem Ls.keep {w u u' : World} {g n : Nat} {Z : List Int} (h : Ls w g n Z u) (hb : Below u.heap.size u u') : Ls w g n Z u' := ⟨h.low.trans (hb.mono h.low.size), owns_keep h.own hb⟩
theorem Ls.set {w u : World} {g n : Nat} {Z : List Int} (h : Ls w g n Z u) (k : Nat) (m : Int) : Ls w g n (Z.set k m) (u.setCell ⟨g, k, none⟩ (.int .i64 m)) := by
  obtain ⟨p1, g1⟩ := h.own.stored k (.int .i64 m)
  have e : (icells Z).set k (.int .i64 m) = icells (Z.set k m) := by simp [icells, List.map_set]
  rw [e] at p1
  exact ⟨h.low.grown g1 h.low.size (fun j hj => owns_ge h.own (by simpa [Value.ownBlock] using hj)), p1⟩
theorem Ls.len {w u : World} {g n : Nat} {Z : List Int} (h : Ls w g n Z u) : Z.length = n := by
  have := h.own.1
  rw [icells_length, Nat.mul_one] at this
  exact this
theorem Ls.at {w u : World} {g n : Nat} {Z : List Int} (h : Ls w g n Z u) {k : Nat} {z : Int} (hz : Z[k]? = some z) : u.cell? ⟨g, k, none⟩ = some (.int .i64 z) := by
  have hl := (List.getElem?_eq_some_iff.1 hz).1
  rw [h.len] at hl
  rw [h.own.cellAt k (by omega)]
  simp [icells, hz]
theorem low_grown {w u : World} (h : Low w u) (r : Option Nat) : w.grownBy u r := ⟨Below.os h, Below.tape h, Below.output h, Below.size h, fun k hk _ => Below.block h k hk⟩
theorem grown_set (u : World) (g j : Nat) (v : Value) : u.grownBy (u.setCell ⟨g, j, none⟩ v) (some g) := ⟨rfl, rfl, rfl, (KeepsWalks.setCell u _ v).size, fun k _ hk => Below.heap_setCell _ _ _ k (fun e => hk (by rw [e]))⟩
theorem ls_other {W0 u : World} {n : Nat} {K : List Int} {G : Nat} (h : Ls W0 G n K u) {g : Nat} (hg : G ≠ g) (hw : W0.heap.size ≤ g) (j : Nat) (v : Value) : Ls W0 G n K (u.setCell ⟨g, j, none⟩ v) :=
  ⟨h.low.grown (grown_set u g j v) h.low.size (fun q hq => by cases hq; exact hw), h.own.kept (grown_set u g j v) (.inr (fun e => by simp [Value.ownBlock] at e; omega))⟩
theorem grown_new {w u : World} {r : Option Nat} (h : w.grownBy u r) {B : Nat} (hB : w.heap.size ≤ B) (j : Nat) (v : Value) : w.grownBy (u.setCell ⟨B, j, none⟩ v) r :=
  ⟨h.os, h.tape, h.output, Nat.le_trans h.size (grown_set u B j v).size, fun k hk hn => (heap_setCell_other u _ k _ (fun e => by simp at e; omega)).trans (h.block k hk hn)⟩
theorem grown_drewN {w u : World} {r : Option Nat} (h : w.grownBy u r) (k : Nat) : w.grownBy (u.drewN k) r := ⟨h.os, h.tape, h.output, h.size, h.block⟩
end Go.Proofs.Ytgiojkhmkeocfaa

/- Hunks of one's own: a row of them, each with a row of lines of one's own; the reference's Copy, walked. -/
namespace Go.Proofs.Ytgiojkhmkeocfaa
open Go.RowKit

theorem own_lt {u : World} {base : Nat} {e : TypeId} {s : Nat} {v : Value} {n : Nat} {xs : List Value} (h : u.ownsRow base e s v n xs) {g : Nat} (hg : v.ownBlock = some g) : g < u.heap.size := by
  rcases h.2 with ⟨rfl, _⟩ | ⟨b, cap, cur, rfl, _, hb, _⟩
  · cases hg
  · simp [Value.ownBlock] at hg
    subst hg
    exact (Array.getElem?_eq_some_iff.1 hb).1
theorem own_ne {u : World} {base base' : Nat} {e e' : TypeId} {s s' : Nat} {v v' : Value} {n n' : Nat} {xs xs' : List Value} (h : u.ownsRow base e s v n xs) (h' : u.ownsRow base' e' s' v' n' xs') (he : e ≠ e') {g : Nat} (hg : v.ownBlock = some g) : v'.ownBlock ≠ some g := by
  intro hg'
  rcases h.2 with ⟨rfl, _⟩ | ⟨b, cap, cur, rfl, _, hb, _⟩
  · cases hg
  · rcases h'.2 with ⟨rfl, _⟩ | ⟨b', cap', cur', rfl, _, hb', _⟩
    · cases hg'
    · simp [Value.ownBlock] at hg hg'
      subst hg hg'
      rw [hb] at hb'
      simp at hb'
      exact he hb'.2
theorem hkC_one (x : Hk) {o : Option Addr} {n c : Nat} : ∀ u ∈ hkC x (.slice o n c), u.oneCell' = true := by
  intro u hu
  simp only [hkC, List.mem_cons, List.not_mem_nil, or_false] at hu
  rcases hu with rfl | rfl | rfl | rfl | rfl <;> rfl
end Go.Proofs.Ytgiojkhmkeocfaa

/- The code's small functions of layer 11, walked: the lines of a side, numbers, places, signs. -/
namespace Go.Proofs.Ytgiojkhmkeocfaa
open Go.RowKit

/-- which sign a side has, and which it has not -/
def Sd (sg no : Int) : Prop := sg = 45 ∧ no = 43 ∨ sg = 43 ∧ no = 45
theorem sd_iff {sg no : Int} (h : Sd sg no) (s : Int) : (s ≠ no ∧ okS s = true) ↔ (s = 32 ∨ s = sg) := by
  simp only [okS, Bool.or_eq_true, decide_eq_true_eq]
  rcases h with ⟨rfl, rfl⟩ | ⟨rfl, rfl⟩ <;> omega
theorem pk_take {sg no : Int} (h : Sd sg no) {s : Int} (hs : s = 32 ∨ s = sg) {out R : List (List UInt8)} {tx : List UInt8} {l : List Mk} (hI : out ++ (if s ≠ no ∧ okS s = true then tx :: pkL no l else pkL no l) = R) : out ++ [tx] ++ pkL no l = R := by
  rw [if_pos ((sd_iff h s).2 hs)] at hI
  rw [← hI]
  simp
theorem pk_pass {sg no : Int} (h : Sd sg no) {s : Int} (h1 : s ≠ 32) (h2 : s ≠ sg) {out R : List (List UInt8)} {tx : List UInt8} {l : List Mk} (hI : out ++ (if s ≠ no ∧ okS s = true then tx :: pkL no l else pkL no l) = R) : out ++ pkL no l = R := by
  rw [if_neg (fun q => by rcases (sd_iff h s).1 q with q | q <;> contradiction)] at hI
  exact hI

theorem owns_less {u : World} {base base' : Nat} {e : TypeId} {s : Nat} {v : Value} {n : Nat} {xs : List Value} (h : u.ownsRow base e s v n xs) (hb : base' ≤ base) : u.ownsRow base' e s v n xs := by
  refine ⟨h.1, ?_⟩
  rcases h.2 with q | ⟨b, cap, cur, rfl, q2, q3, q4⟩
  · exact .inl q
  · exact .inr ⟨b, cap, cur, rfl, Nat.le_trans hb q2, q3, q4⟩

/-- may a hunk say that number of its lines? -/
def nmB (a n : Int) : Bool := nat31 a && nat31 n && !(decide (a = 0) && decide (0 < n))
/-- is a line changed? is its sign none? -/
def chgB (m : Mk) : Bool := decide (m.sg = 45) || decide (m.sg = 43)
end Go.Proofs.Ytgiojkhmkeocfaa

/- The reference's Invert of layer 11, walked. -/
namespace Go.Proofs.Ytgiojkhmkeocfaa
open Go.RowKit

/-- two operations that yield values, whichever comes first -/
theorem go_two {P : Program} {S : World → Prop} {md : Region.Mode} {ops : Array Oper} {Q : Exit → Act → World → Prop} {fuel : Nat} {listed : Array Bool} {A : Act} {w : World}
    (i d : Nat) (op : Oper) (j e : Nat) (oq : Oper) (hi : ops[i]? = some op) (hd : op.dst = some d) (hj : ops[j]? = some oq) (he : oq.dst = some e) (hr : Region.ready md ops listed = [i, j]) (hwt : Region.wanted op (yielded ops A.tmps) = true) (hwq : Region.wanted oq (yielded ops A.tmps) = true)
    (vp : Value) (wp : World) (hp : (execOp A.eval op).run P w = .ok (.value vp) wp) (hSp : S wp)
    (vq : Value) (wq : World) (hq : (execOp A.eval oq).run P w = .ok (.value vq) wq) (hSq : S wq)
    (h : wpAnyH P md ops Q S fuel (listed.setIfInBounds i true) (A.put (some d) vp) wp)
    (h2 : wpAnyH P md ops Q S fuel (listed.setIfInBounds j true) (A.put (some e) vq) wq) :
    wpAnyH P md ops Q S (fuel + 1) listed A w := by
  refine wpAnyH_ready hr (by simp) (AllReadyH.cons hi (fun K hK => ?_) (AllReadyH.cons hj (fun K hK => ?_) AllReadyH.nil))
  · refine step_want hwt ?_
    unfold Oper.wp
    rw [hp, Oper.upon_value]
    exact hK.out _ _ hSp (fun _ => by rw [hd]; exact h)
  · refine step_want hwq ?_
    unfold Oper.wp
    rw [hq, Oper.upon_value]
    exact hK.out _ _ hSq (fun _ => by rw [he]; exact h2)
/-- append, run by itself -/
theorem exec_app {w w' : World} {T : TypeId} {v vx v' : Value} {op : Oper} (x y : Operand) (ho : op.op = .call { callee := .builtin .append, args := #[x, y], argTypes := #[T, T] }) {ev : Operand → Value} (hx : ev x = v) (hy : ev y = vx) (hr : (Builtin.append_ #[T, T] op.type #[v, vx]).run Try.prog w = .ok v' w') :
    (execOp ev op).run Try.prog w = .ok (.value v') w' := by
  simp [execOp, ho, resolve, invoke, builtin, hx, hy, hr, Result.andThen]
section
variable {w : World} {q : Hk} {ov ov' av av' : Value} {x x' y y' : List Mk} {u u' : World}
theorem own_kept {e : TypeId} {s B : Nat} {v : Value} {n : Nat} {xs : List Value} (ho : u.ownsRow B e s v n xs) {g : Option Nat} (hg : u.grownBy u' g) (hne : ∀ k, g = some k → v.ownBlock ≠ some k) : u'.ownsRow B e s v n xs := by
  refine ⟨ho.1, ?_⟩
  rcases ho.2 with q | ⟨b, cap, cur, rfl, q2, q3, q4⟩
  · exact .inl q
  · refine .inr ⟨b, cap, cur, rfl, q2, ?_, q4⟩
    rw [hg.block b (Array.getElem?_eq_some_iff.1 q3).1 (fun e => hne b e.symm rfl)]
    exact q3
theorem grown_then {r r' : Option Nat} {u'' : World} (h : u.grownBy u' r) (h' : u'.grownBy u'' r') (hr : r' = r ∨ ∃ k, r' = some k ∧ u.heap.size ≤ k) : u.grownBy u'' r := by
  refine ⟨h'.os.trans h.os, h'.tape.trans h.tape, h'.output.trans h.output, Nat.le_trans h.size h'.size, fun k hk hne => ?_⟩
  rw [h'.block k (Nat.lt_of_lt_of_le hk h.size) ?_]
  · exact h.block k hk hne
  · intro e
    rcases hr with hr | ⟨j, hr, hj⟩
    · exact hne (e.trans hr)
    · rw [hr] at e
      cases e
      omega
theorem grown_alloc {r : Option Nat} (h : u.grownBy u' r) (o : Obj) : u.grownBy (u'.alloc o) r :=
  ⟨h.os, h.tape, h.output, Nat.le_trans h.size (by simp), fun k hk hne => by rw [Below.heap_alloc _ _ _ (Nat.lt_of_lt_of_le hk h.size)]; exact h.block k hk hne⟩
theorem own_base {e : TypeId} {s B B' : Nat} {v : Value} {n : Nat} {xs : List Value} (ho : u.ownsRow B e s v n xs) (hB : B' ≤ B) : u.ownsRow B' e s v n xs := by
  refine ⟨ho.1, ?_⟩
  rcases ho.2 with q | ⟨b, cap, cur, rfl, q2, q3, q4⟩
  · exact .inl q
  · exact .inr ⟨b, cap, cur, rfl, by omega, q3, q4⟩
end
end Go.Proofs.Ytgiojkhmkeocfaa
