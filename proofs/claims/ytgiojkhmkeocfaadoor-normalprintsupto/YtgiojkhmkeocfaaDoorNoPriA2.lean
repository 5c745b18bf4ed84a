/-
  Texts that belong together, joined: HuRow, HuRf1, HuRf2, HuRf3, PcReg, HuRf4, HuRf5, HuRf6, HuRf7, PcLs, HuOwn, HuC1, HuIv, HuCn, HuOne, HuCh, HuGr, HuC7, EdReg, EdApp, EdSameS, EdRApp.
-/
import Derived.Test.YtgiojkhmkeocfaaDoorNoPriA1
import Derived.Deep.CutRange
import Derived.Deep.DeepCutAuto
import Derived.Laws.Rows

/- Lines with signs and hunks as cells: what slices of them hold; hunks in a box; append onto an owned row of hunks. -/
namespace Go.Proofs.YtgiojkhmkeocfaaDoor
open Go.RowKit

def mkC (m : Mk) : List Value := [.int .u8 m.sg, .string ⟨m.tx.toArray⟩]
def mkcells (l : List Mk) : List Value := l.flatMap mkC
theorem infoMk : (Tryd.prog.info? 91).map (fun i => (i.zero, i.size, i.bytes)) = some (some (.agg #[.int .u8 0, .string ⟨#[]⟩]), 2, 24) := by kernel_rfl
theorem infoHk : (Tryd.prog.info? 43).map (fun i => (i.zero, i.size, i.bytes)) = some (some (.agg #[.int .i64 0, .int .i64 0, .int .i64 0, .int .i64 0, .slice none 0 0]), 5, 56) := by kernel_rfl
theorem mkcells_length (l : List Mk) : (mkcells l).length = l.length * 2 := by
  induction l with
  | nil => rfl
  | cons c l ih => simp only [mkcells, List.flatMap_cons, List.length_append, List.length_cons] at ih ⊢; rw [ih]; simp [mkC]; omega
theorem mkcells_append (a b : List Mk) : mkcells (a ++ b) = mkcells a ++ mkcells b := by simp [mkcells]
theorem mkcells_one (l : List Mk) : ∀ u ∈ mkcells l, u.oneCell' = true := by
  intro u hu
  simp only [mkcells, List.mem_flatMap, mkC] at hu
  obtain ⟨c, _, h⟩ := hu
  simp only [List.mem_cons, List.not_mem_nil, or_false] at h
  rcases h with rfl | rfl <;> rfl
theorem mkcells_at (l : List Mk) (k : Nat) (hk : k < l.length) : (mkcells l)[2 * k]? = some (.int .u8 l[k].sg) ∧ (mkcells l)[2 * k + 1]? = some (.string ⟨l[k].tx.toArray⟩) := by
  induction l generalizing k with
  | nil => simp at hk
  | cons c l ih =>
    cases k with
    | zero => simp [mkcells, mkC]
    | succ k =>
      have h := ih k (by simpa using hk)
      have e : ∀ i, (mkcells (c :: l))[2 * (k + 1) + i]? = (mkcells l)[2 * k + i]? := by
        intro i
        have : mkcells (c :: l) = mkC c ++ mkcells l := rfl
        rw [this, List.getElem?_append_right (by simp [mkC]; omega)]
        congr 1
        simp [mkC]; omega
      simp only [List.getElem_cons_succ]
      refine ⟨by rw [← (h).1]; exact e 0, by rw [← h.2]; exact e 1⟩
/-- a slice of lines with signs -/
def HMk (w : World) (v : Value) (l : List Mk) : Prop := Holds w v l.length (mkcells l)
theorem HMk.keep {w w' : World} {v : Value} {l : List Mk} (h : HMk w v l) {N : Nat} (hk : Below N w w') (hN : w.heap.size ≤ N) : HMk w' v l := Holds.keep h fun k hk' => hk.block k (by omega)
theorem HMk.at {w : World} {ao : Option Addr} {n c : Nat} {l : List Mk} (h : HMk w (.slice ao n c) l) (h0 : 0 < l.length) : ∃ b off, ao = some ⟨b, off, none⟩ ∧ b < w.heap.size ∧
    ∀ k (hk : k < l.length), w.cell? ⟨b, off + k * 2, none⟩ = some (.int .u8 l[k].sg) ∧ w.cell? ⟨b, off + k * 2 + 1, none⟩ = some (.string ⟨l[k].tx.toArray⟩) := by
  obtain ⟨b, off, c', hv, hb, hc⟩ := Holds.at h (by rw [mkcells_length]; omega)
  cases hv
  refine ⟨b, off, rfl, hb, fun k hk => ?_⟩
  obtain ⟨h0, h1⟩ := mkcells_at l k hk
  have hlen := mkcells_length l
  have e : k * 2 = 2 * k := by omega
  rw [e]
  refine ⟨?_, ?_⟩
  · have := hc (2 * k) (by omega)
    rw [← h0, this, List.getElem?_eq_getElem]
  · have := hc (2 * k + 1) (by omega)
    rw [← h1, Nat.add_assoc, this, List.getElem?_eq_getElem]
theorem Low.mk {W w : World} (h : Low W w) {b off n c : Nat} {l : List Mk} (hl : HMk W (.slice (some ⟨b, off, none⟩) n c) l) (k : Nat) (hk : k < l.length) {x : Mk} (hx : l[k] = x) : w.cell? ⟨b, off + k * 2, none⟩ = some (.int .u8 x.sg) ∧ w.cell? ⟨b, off + k * 2 + 1, none⟩ = some (.string ⟨x.tx.toArray⟩) := by
  obtain ⟨b', off', e, _, hc⟩ := HMk.at (HMk.keep hl h (Nat.le_refl _)) (by omega)
  cases e
  rw [← hx]
  exact hc k hk
/-- a hunk as a value, in a box -/
def hkV (h : Hk) (v : Value) : Value := .agg #[.int .i64 h.A, .int .i64 h.AN, .int .i64 h.B, .int .i64 h.BN, v]
def hkC (h : Hk) (v : Value) : List Value := [.int .i64 h.A, .int .i64 h.AN, .int .i64 h.B, .int .i64 h.BN, v]
def hkO (h : Hk) (v : Value) : Obj := .cells #[.int .i64 h.A, .int .i64 h.AN, .int .i64 h.B, .int .i64 h.BN, v] 43
def Hx (u : World) (b : Nat) (h : Hk) (v : Value) : Prop := u.heap[b]? = some (hkO h v)
section
variable {u u' : World} {b : Nat} {h : Hk} {v : Value}
theorem Hx.cells (q : Hx u b h v) : u.cell? ⟨b, 0, none⟩ = some (.int .i64 h.A) ∧ u.cell? ⟨b, 1, none⟩ = some (.int .i64 h.AN) ∧ u.cell? ⟨b, 2, none⟩ = some (.int .i64 h.B) ∧ u.cell? ⟨b, 3, none⟩ = some (.int .i64 h.BN) ∧ u.cell? ⟨b, 4, none⟩ = some v := by
  unfold Hx hkO at q
  refine ⟨?_, ?_, ?_, ?_, ?_⟩ <;> rw [Lib.cell_of_heap q] <;> rfl
theorem Hx.frozen (q : Hx u b h v) (j : Nat) : u.frozen? ⟨b, j, none⟩ = false := Lib.frozen_of_heap q j
theorem Hx.lt (q : Hx u b h v) : b < u.heap.size := (Array.getElem?_eq_some_iff.1 q).1
theorem Hx.low (q : Hx u b h v) (hg : Below u.heap.size u u') : Hx u' b h v := (hg.block b q.lt).trans q
theorem Hx.keep (q : Hx u b h v) {g : Option Nat} (hg : u.grownBy u' g) (hr : some b ≠ g) : Hx u' b h v := (hg.block b q.lt hr).trans q
theorem Hx.new (w : World) (h : Hk) (v : Value) : Hx (w.alloc (hkO h v)) w.heap.size h v := _root_.Go.heap_alloc_new w _
end
/-- hunks in a row: each with the slice of its lines -/
def hkcells : List (Hk × Value) → List Value
  | [] => []
  | (h, v) :: l => hkC h v ++ hkcells l
theorem hkcells_length (l : List (Hk × Value)) : (hkcells l).length = l.length * 5 := by
  induction l with
  | nil => rfl
  | cons c l ih =>
    obtain ⟨h, v⟩ := c
    simp only [hkcells, List.length_append, List.length_cons]
    rw [ih]
    simp [hkC]; omega
theorem hkcells_append (a b : List (Hk × Value)) : hkcells (a ++ b) = hkcells a ++ hkcells b := by
  induction a with
  | nil => rfl
  | cons c l ih =>
    obtain ⟨h, v⟩ := c
    simp only [List.cons_append, hkcells, ih, List.append_assoc]
theorem hkcells_at (l : List (Hk × Value)) (k : Nat) (hk : k < l.length) : (hkcells l)[5 * k]? = some (.int .i64 l[k].1.A) ∧ (hkcells l)[5 * k + 1]? = some (.int .i64 l[k].1.AN) ∧ (hkcells l)[5 * k + 2]? = some (.int .i64 l[k].1.B) ∧ (hkcells l)[5 * k + 3]? = some (.int .i64 l[k].1.BN) ∧ (hkcells l)[5 * k + 4]? = some l[k].2 := by
  induction l generalizing k with
  | nil => simp at hk
  | cons c l ih =>
    obtain ⟨x, y⟩ := c
    cases k with
    | zero => simp [hkcells, hkC]
    | succ k =>
      have h := ih k (by simpa using hk)
      have e : ∀ i, (hkcells ((x, y) :: l))[5 * (k + 1) + i]? = (hkcells l)[5 * k + i]? := by
        intro i
        have : hkcells ((x, y) :: l) = hkC x y ++ hkcells l := rfl
        rw [this, List.getElem?_append_right (by simp [hkC]; omega)]
        congr 1
        simp [hkC]; omega
      simp only [List.getElem_cons_succ]
      refine ⟨by rw [← (h).1]; exact e 0, by rw [← h.2.1]; exact e 1, by rw [← h.2.2.1]; exact e 2, by rw [← h.2.2.2.1]; exact e 3, by rw [← h.2.2.2.2]; exact e 4⟩
/-- a slice of hunks; p: the hunks, each with the slice of its lines -/
structure HHp (w : World) (v : Value) (p : List (Hk × Value)) : Prop where
  row : Holds w v p.length (hkcells p)
  ins : ∀ x ∈ p, HMk w x.2 x.1.ls
def HHk (w : World) (v : Value) (l : List Hk) : Prop := ∃ p : List (Hk × Value), p.map (·.1) = l ∧ HHp w v p
theorem HHp.keep {w w' : World} {v : Value} {p : List (Hk × Value)} (h : HHp w v p) {N : Nat} (hk : Below N w w') (hN : w.heap.size ≤ N) : HHp w' v p :=
  ⟨Holds.keep h.row fun k hk' => hk.block k (by omega), fun x hx => HMk.keep (h.ins x hx) hk hN⟩
theorem HHk.keep {w w' : World} {v : Value} {l : List Hk} (h : HHk w v l) {N : Nat} (hk : Below N w w') (hN : w.heap.size ≤ N) : HHk w' v l := by
  obtain ⟨p, hp, h⟩ := h
  exact ⟨p, hp, h.keep hk hN⟩
theorem HHp.at {w : World} {ao : Option Addr} {n c : Nat} {l : List (Hk × Value)} (h : HHp w (.slice ao n c) l) (h0 : 0 < l.length) : ∃ b off, ao = some ⟨b, off, none⟩ ∧ b < w.heap.size ∧
    ∀ k (hk : k < l.length), w.cell? ⟨b, off + k * 5, none⟩ = some (.int .i64 l[k].1.A) ∧ w.cell? ⟨b, off + k * 5 + 1, none⟩ = some (.int .i64 l[k].1.AN) ∧ w.cell? ⟨b, off + k * 5 + 2, none⟩ = some (.int .i64 l[k].1.B) ∧ w.cell? ⟨b, off + k * 5 + 3, none⟩ = some (.int .i64 l[k].1.BN) ∧ w.cell? ⟨b, off + k * 5 + 4, none⟩ = some l[k].2 := by
  obtain ⟨b, off, c', hv, hb, hc⟩ := Holds.at h.row (by rw [hkcells_length]; omega)
  cases hv
  refine ⟨b, off, rfl, hb, fun k hk => ?_⟩
  obtain ⟨h0, h1, h2, h3, h4⟩ := hkcells_at l k hk
  have hlen := hkcells_length l
  have e : k * 5 = 5 * k := by omega
  rw [e]
  refine ⟨?_, ?_, ?_, ?_, ?_⟩
  · have := hc (5 * k) (by omega)
    rw [← h0, this, List.getElem?_eq_getElem]
  · have := hc (5 * k + 1) (by omega)
    rw [← h1, Nat.add_assoc, this, List.getElem?_eq_getElem]
  · have := hc (5 * k + 2) (by omega)
    rw [← h2, Nat.add_assoc, this, List.getElem?_eq_getElem]
  · have := hc (5 * k + 3) (by omega)
    rw [← h3, Nat.add_assoc, this, List.getElem?_eq_getElem]
  · have := hc (5 * k + 4) (by omega)
    rw [← h4, Nat.add_assoc, this, List.getElem?_eq_getElem]
theorem HMk.form {w : World} {v : Value} {l : List Mk} (h : HMk w v l) : ∃ ao c, v = .slice ao l.length c := Holds.form h
theorem run_append_w (w : World) (T E ty : TypeId) (z : Value) (size bytes : Nat) (hT : Tryd.prog.underlying T = some (.slice E)) (hinfo : (Tryd.prog.info? E).map (fun i => (i.zero, i.size, i.bytes)) = some (some z, size, bytes)) (hz1 : z.cells.size = size) (hsz : 0 < size) (hby : bytes ≤ 64)
    (base : Nat) (v : Value) (k : Nat) (xs : List Value) (hown : w.ownsRow base E size v k xs) (vx : Value) (m : Nat) (news : List Value) (hh : Holds w vx m news) (hl : news.length = m * size)
    (h1 : ∀ u ∈ news, u.oneCell' = true) (hk : k + m ≤ 2199023255552) (hbase : base ≤ w.heap.size) :
    ∃ v' w', (Builtin.append_ #[T, T] ty #[v, vx]).run Tryd.prog w = .ok v' w' ∧ w'.ownsRow base E size v' (k + m) (xs ++ news) ∧ w.grownBy w' v.ownBlock ∧ (v'.ownBlock = v.ownBlock ∨ v'.ownBlock = some w.heap.size) := by
  obtain ⟨i0, hi0, hz0, hzs, hz2⟩ := info_parts hinfo
  rcases hh with ⟨rfl, rfl, rfl⟩ | ⟨ad, c, rfl, _, hc⟩
  · exact ⟨v, w, run_append_owned_none (P := Tryd.prog) (w := w) base T ty E i0 size hT hi0 v k xs hown, by simpa using hown, World.grownBy.refl _ _, .inl rfl⟩
  · obtain ⟨v', w', hr, h2, h3, _, h5⟩ := run_append_own_at (P := Tryd.prog) w base T ty E i0 z size bytes hT hi0 hz0 hzs hz2 hz1 hsz v k xs hown ad m c news hl hc h1 (by unfold maxLen; omega) (by
      have : (k + m) * bytes ≤ (k + m) * 64 := Nat.mul_le_mul_left _ hby
      omega) hbase
    exact ⟨v', w', hr, h2, h3, h5⟩
theorem wpList_append_w {ops : Array Oper} {rest : List Oper} {o : Oper} {a : Act} {Q : Exit → Act → World → Prop} (w : World) (hw : Region.wanted o (yielded ops a.tmps) = true) (s x : Operand) (T E : TypeId) (z : Value) (size bytes : Nat)
    (ho : o.op = .call { callee := .builtin .append, args := #[s, x], argTypes := #[T, T] }) (hT : Tryd.prog.underlying T = some (.slice E)) (hinfo : (Tryd.prog.info? E).map (fun i => (i.zero, i.size, i.bytes)) = some (some z, size, bytes)) (hz1 : z.cells.size = size) (hsz : 0 < size) (hby : bytes ≤ 64)
    (base : Nat) (v : Value) (k : Nat) (xs : List Value) (hs : a.eval s = v) (hown : w.ownsRow base E size v k xs) (vx : Value) (m : Nat) (news : List Value) (hx : a.eval x = vx) (hh : Holds w vx m news) (hl : news.length = m * size)
    (h1 : ∀ u ∈ news, u.oneCell' = true) (hk : k + m ≤ 2199023255552) (hbase : base ≤ w.heap.size)
    (h : ∀ v' w', w'.ownsRow base E size v' (k + m) (xs ++ news) → w.grownBy w' v.ownBlock → (v'.ownBlock = v.ownBlock ∨ v'.ownBlock = some w.heap.size) → wpList Tryd.prog ops Q rest (a.put o.dst v') w') : wpList Tryd.prog ops Q (o :: rest) a w := by
  refine wpList_step fun K hK => ?_
  rw [if_pos hw]
  obtain ⟨v', w', hr, h2, h3, h4⟩ := run_append_w w T E o.type z size bytes hT hinfo hz1 hsz hby base v k xs hown vx m news hh hl h1 hk hbase
  unfold Oper.wp
  simp [execOp, ho, resolve, invoke, builtin, hs, hx, hr, Result.andThen]
  exact hK _ _ (h v' w' h2 h3 h4)
theorem hnil_row (w : World) (base : Nat) (e : TypeId) (s : Nat) : w.ownsRow base e s (.slice none 0 0) 0 [] := ⟨by simp, .inl ⟨rfl, rfl⟩⟩
end Go.Proofs.YtgiojkhmkeocfaaDoor

/- The reference's small functions of layer 11, walked: numbers, places, lines, the lines of a side. -/
namespace Go.Proofs.YtgiojkhmkeocfaaDoor
open Go.RowKit

end Go.Proofs.YtgiojkhmkeocfaaDoor

/- The reference's line, last of layer 11, walked. -/
namespace Go.Proofs.YtgiojkhmkeocfaaDoor
open Go.RowKit

theorem bat (l : List UInt8) (k : Nat) (h : k < (⟨l.toArray⟩ : ByteArray).size) : (⟨l.toArray⟩ : ByteArray)[k]'h = l[k]'(h) := rfl
attribute [local go_sem] bat ByteArray.extract_mk
theorem wrap_s {n : Int} (h0 : -9223372036854775808 ≤ n) (h1 : n ≤ 9223372036854775807) : IntKind.i64.wrap n = n := by
  simp [IntKind.wrap, IntKind.bits, IntKind.signed]
  split <;> omega
end Go.Proofs.YtgiojkhmkeocfaaDoor

/- The reference's fields of layer 11, walked. -/
namespace Go.Proofs.YtgiojkhmkeocfaaDoor
open Go.RowKit

/-- a line in a box -/
def mkO (m : Mk) : Obj := .cells #[.int .u8 m.sg, .string ⟨m.tx.toArray⟩] 91
def Mx (u : World) (b : Nat) (m : Mk) : Prop := u.heap[b]? = some (mkO m)
section
variable {u u' : World} {b : Nat} {m : Mk}
theorem Mx.cells (q : Mx u b m) : u.cell? ⟨b, 0, none⟩ = some (.int .u8 m.sg) ∧ u.cell? ⟨b, 1, none⟩ = some (.string ⟨m.tx.toArray⟩) := by
  unfold Mx mkO at q
  refine ⟨?_, ?_⟩ <;> rw [Lib.cell_of_heap q] <;> rfl
theorem Mx.lt (q : Mx u b m) : b < u.heap.size := (Array.getElem?_eq_some_iff.1 q).1
theorem Mx.low (q : Mx u b m) (hg : Below u.heap.size u u') : Mx u' b m := (hg.block b q.lt).trans q
theorem Mx.new (w : World) (m : Mk) : Mx (w.alloc (mkO m)) w.heap.size m := _root_.Go.heap_alloc_new w _
end
theorem Hx.row {W : World} {b : Nat} {h : Hk} {v : Value} (q : Hx W b h v) (n : Nat) : Hx (W.drewN n) b h v := q

end Go.Proofs.YtgiojkhmkeocfaaDoor

/- Steps of a region that draws its order, taken one by one where a guard says no: reads, calls by their contracts. -/
namespace Go.Proofs.YtgiojkhmkeocfaaDoor
open Go.RowKit

theorem step_want {b : Bool} {X Y : Prop} (h : b = true) (hX : X) : if b = true then X else Y := by
  rw [if_pos h]
  exact hX
/-- an operation that reads alone, or is not wanted, from one stage of the region to the next -/
theorem go_take {P : Program} {S : World → Prop} {md : Region.Mode} {ops : Array Oper} {Q : Exit → Act → World → Prop} {fuel : Nat} {listed : Array Bool} {A : Act} {w : World}
    (i d : Nat) (op : Oper) (v : Value) (hi : ops[i]? = some op) (hd : op.dst = some d) (hs : Region.noSelect ops = true) (hf : Region.free md ops listed i = true) (hr : (Region.ready md ops listed).contains i = true)
    (hQ : ∀ c a w, Q (.panic c) (a.put op.dst v) w → Q (.panic c) a w) (hy : YieldsIf P ops S op v A) (hS : S w)
    (h : wpAnyH P md ops Q S fuel (listed.setIfInBounds i true) (A.put (some d) v) w) : wpAnyH P md ops Q S (fuel + 1) listed A w :=
  wpAnyH_take hi hs hf hr hQ hy hS (by rw [hd]; exact h)
/-- a call of whatever function value by its contract, where nothing else may come up; R: what is told of what is answered -/
theorem go_callE {P : Program} {S : World → Prop} {md : Region.Mode} {ops : Array Oper} {Q : Exit → Act → World → Prop} {fuel : Nat} {listed : Array Bool} {A : Act} {w : World}
    (i d : Nat) (op : Oper) (hi : ops[i]? = some op) (hd : op.dst = some d) (hr : Region.ready md ops listed = [i]) (hwt : Region.wanted op (yielded ops A.tmps) = true)
    (F : Nat) (x : Operand) (xs : Array Operand) (ts : Array TypeId) (ho : op.op = .call { callee := .value x, args := xs, argTypes := ts })
    (cap : Array Value) (hxv : A.eval x = .func (.func F) #[] cap) (args : Array Value) (hx : xs.map A.eval = args) (hen : ∀ args w, (callFunc F args).run P w = .ok (.enter F args) w) (R : Value → World → Prop)
    (hc : Calls P F (args ++ cap) w fun e w' => ∃ v, e = .returned v ∧ S w' ∧ R v w')
    (h : ∀ v w', S w' → R v w' → wpAnyH P md ops Q S fuel (listed.setIfInBounds i true) (A.put (some d) v) w') :
    wpAnyH P md ops Q S (fuel + 1) listed A w := by
  refine wpAnyH_ready hr (by simp) (AllReadyH.cons hi (fun K hK => ?_) AllReadyH.nil)
  refine step_want hwt ?_
  unfold Oper.wp
  have e : (execOp A.eval op).run P w = .ok (.enter F (args ++ cap)) w := by
    have h1 := hen (args ++ cap) w
    simp only [execOp, ho, resolve, invoke]
    simp only [hxv, Deferred.ofValue, Sem.run_bind, Sem.run_pure, Result.andThen_ok, hx, Array.empty_append]
    exact h1
  rw [e, Oper.upon_enter]
  refine hc.mono ?_
  rintro e w' ⟨v, rfl, hb, hR⟩
  exact hK.out _ _ hb (fun hu => by rw [hd]; exact h v w' hu hR)
/-- an operation that yields a value, whatever it does to memory, where nothing else may come up -/
theorem go_val {P : Program} {S : World → Prop} {md : Region.Mode} {ops : Array Oper} {Q : Exit → Act → World → Prop} {fuel : Nat} {listed : Array Bool} {A : Act} {w : World}
    (i d : Nat) (op : Oper) (hi : ops[i]? = some op) (hd : op.dst = some d) (hr : Region.ready md ops listed = [i]) (hwt : Region.wanted op (yielded ops A.tmps) = true)
    (v : Value) (w' : World) (he : (execOp A.eval op).run P w = .ok (.value v) w') (hS : S w')
    (h : wpAnyH P md ops Q S fuel (listed.setIfInBounds i true) (A.put (some d) v) w') :
    wpAnyH P md ops Q S (fuel + 1) listed A w := by
  refine wpAnyH_ready hr (by simp) (AllReadyH.cons hi (fun K hK => ?_) AllReadyH.nil)
  refine step_want hwt ?_
  unfold Oper.wp
  rw [he, Oper.upon_value]
  exact hK.out _ _ hS (fun _ => by rw [hd]; exact h)
/-- a store, where nothing else may come up -/
theorem go_skip {P : Program} {S : World → Prop} {md : Region.Mode} {ops : Array Oper} {Q : Exit → Act → World → Prop} {fuel : Nat} {listed : Array Bool} {A : Act} {w : World}
    (i : Nat) (op : Oper) (hi : ops[i]? = some op) (hd : op.dst = none) (hr : Region.ready md ops listed = [i]) (hwt : Region.wanted op (yielded ops A.tmps) = true)
    (w' : World) (he : (execOp A.eval op).run P w = .ok .skip w') (hS : S w')
    (h : wpAnyH P md ops Q S fuel (listed.setIfInBounds i true) A w') :
    wpAnyH P md ops Q S (fuel + 1) listed A w := by
  refine wpAnyH_ready hr (by simp) (AllReadyH.cons hi (fun K hK => ?_) AllReadyH.nil)
  refine step_want hwt ?_
  unfold Oper.wp
  rw [he, Oper.upon_skip]
  exact hK.out _ _ hS (fun _ => by rw [hd]; exact h)
/-- a number, a slice, a function value is read -/
theorem load_int {u : World} {a : Addr} {z : Int} (h : u.cell? a = some (.int .i64 z)) {op : Oper} (x : Operand) (ho : op.op = .load 3 x) {ev : Operand → Value} (hx : ev x = .pointer (some a)) :
    (execOp ev op).run Tryd.prog u = .ok (.value (.int .i64 z)) u := by
  simp only [execOp, ho, hx]
  go_simp
end Go.Proofs.YtgiojkhmkeocfaaDoor

/- The reference's Check of layer 11, walked. -/
namespace Go.Proofs.YtgiojkhmkeocfaaDoor
open Go.RowKit

/-- a hunk is read out of its box -/
theorem load_hk {u : World} {b : Nat} {h : Hk} {v : Value} (q : Hx u b h v) {op : Oper} (x : Operand) (ho : op.op = .load 43 x) {ev : Operand → Value} (hx : ev x = .pointer (some ⟨b, 0, none⟩)) :
    (execOp ev op).run Tryd.prog u = .ok (.value (hkV h v)) u := by
  have hL : (loadVar 43 ⟨b, 0, none⟩).run Tryd.prog u = .ok (hkV h v) u := run_loadVar_row u b _ _ _ _ _ q Tryd.underlying43 rfl (by kernel_rfl)
  simp only [execOp, ho, hx, Instr.loadAt, Instr.sureAddr, Sem.run_bind, Sem.run_pure, Result.andThen_ok, hL]
end Go.Proofs.YtgiojkhmkeocfaaDoor

/- The reference's Order of layer 11, walked. -/
namespace Go.Proofs.YtgiojkhmkeocfaaDoor
open Go.RowKit

/-- a hunk of a row, read -/
theorem HHp.take {w W : World} {b off n c : Nat} {p : List (Hk × Value)} (h : HHp w (.slice (some ⟨b, off, none⟩) n c) p) (hB : Below w.heap.size w W) (k : Nat) (hk : k < p.length) {x : Hk} {y : Value} (hx : p[k] = (x, y)) : (W.cell? ⟨b, off + k * 5, none⟩ = some (.int .i64 x.A) ∧ W.cell? ⟨b, off + k * 5 + 1, none⟩ = some (.int .i64 x.AN) ∧ W.cell? ⟨b, off + k * 5 + 2, none⟩ = some (.int .i64 x.B) ∧ W.cell? ⟨b, off + k * 5 + 3, none⟩ = some (.int .i64 x.BN) ∧ W.cell? ⟨b, off + k * 5 + 4, none⟩ = some y) ∧ HMk W y x.ls := by
  have h2 := h.keep hB (Nat.le_refl _)
  obtain ⟨b', off', e, _, hc⟩ := h2.at (by omega)
  cases e
  have := hc k hk
  rw [hx] at this
  refine ⟨this, ?_⟩
  have hi := h2.ins p[k] (List.getElem_mem hk)
  rw [hx] at hi
  exact hi
end Go.Proofs.YtgiojkhmkeocfaaDoor

/- The reference's Same, SameHunks of layer 11, walked: hunks that are the same. -/
namespace Go.Proofs.YtgiojkhmkeocfaaDoor
open Go.RowKit

end Go.Proofs.YtgiojkhmkeocfaaDoor

/- The reference's SameHunks of layer 11, walked: rows of hunks that are the same; steps by hand. -/
namespace Go.Proofs.YtgiojkhmkeocfaaDoor
open Go.RowKit

/-- the cells of a hunk in a row -/
def HkAt (u : World) (b o : Nat) (x : Hk) (y : Value) : Prop := u.cell? ⟨b, o, none⟩ = some (.int .i64 x.A) ∧ u.cell? ⟨b, o + 1, none⟩ = some (.int .i64 x.AN) ∧ u.cell? ⟨b, o + 2, none⟩ = some (.int .i64 x.B) ∧ u.cell? ⟨b, o + 3, none⟩ = some (.int .i64 x.BN) ∧ u.cell? ⟨b, o + 4, none⟩ = some y
theorem HkAt.low {u u' : World} {b o : Nat} {x : Hk} {y : Value} (h : HkAt u b o x y) (hB : Low u u') : HkAt u' b o x y := by
  have key : ∀ (q : Addr) (z : Value), u.cell? q = some z → u'.cell? q = some z := fun q z hz => (World.cell?_of_block (w := u) (Below.block hB _ (World.block_lt_of_cell? _ _ hz))).trans hz
  exact ⟨key _ _ h.1, key _ _ h.2.1, key _ _ h.2.2.1, key _ _ h.2.2.2.1, key _ _ h.2.2.2.2⟩
end Go.Proofs.YtgiojkhmkeocfaaDoor

/- A row of numbers of one's own, at a known block: what is kept. -/
namespace Go.Proofs.YtgiojkhmkeocfaaDoor
open Go.RowKit

/-- the state of the walk -/
structure Ls (w : World) (g n : Nat) (Z : List Int) (u : World) : Prop where
  low : Below w.heap.size w u
  own : u.ownsRow w.heap.size 3 1 (.slice (some ⟨g, 0, none⟩) n n) n (icells Z)
theorem Ls.drewN {w u : World} {g n : Nat} {Z : List Int} (h : Ls w g n Z u) (k : Nat) : Ls w g n Z (u.drewN k) := ⟨Below.dN h.low k, h.own⟩
theorem Ls.keep {w u u' : World} {g n : Nat} {Z : List Int} (h : Ls w g n Z u) (hb : Below u.heap.size u u') : Ls w g n Z u' := ⟨h.low.trans (hb.mono h.low.size), owns_keep h.own hb⟩
theorem Ls.set {w u : World} {g n : Nat} {Z : List Int} (h : Ls w g n Z u) (k : Nat) (m : Int) : Ls w g n (Z.set k m) (u.setCell ⟨g, k, none⟩ (.int .i64 m)) := by
  obtain ⟨p1, g1⟩ := h.own.stored k (.int .i64 m)
  have e : (icells Z).set k (.int .i64 m) = icells (Z.set k m) := by simp [icells, List.map_set]
  rw [e] at p1
  exact ⟨h.low.grown g1 h.low.size (fun j hj => owns_ge h.own (by simpa [Value.ownBlock] using hj)), p1⟩
theorem Ls.len {w u : World} {g n : Nat} {Z : List Int} (h : Ls w g n Z u) : Z.length = n := by
  have := h.own.1
  rw [icells_length, Nat.mul_one] at this
  exact this
theorem Ls.at {w u : World} {g n : Nat} {Z : List Int} (h : Ls w g n Z u) {k : Nat} {z : Int} (hz : Z[k]? = some z) : u.cell? ⟨g, k, none⟩ = some (.int .i64 z) := by
  have hl := (List.getElem?_eq_some_iff.1 hz).1
  rw [h.len] at hl
  rw [h.own.cellAt k (by omega)]
  simp [icells, hz]
theorem grown_set (u : World) (g j : Nat) (v : Value) : u.grownBy (u.setCell ⟨g, j, none⟩ v) (some g) := ⟨rfl, rfl, rfl, (KeepsWalks.setCell u _ v).size, fun k _ hk => Below.heap_setCell _ _ _ k (fun e => hk (by rw [e]))⟩
end Go.Proofs.YtgiojkhmkeocfaaDoor

/- Hunks of one's own: a row of them, each with a row of lines of one's own; the reference's Copy, walked. -/
namespace Go.Proofs.YtgiojkhmkeocfaaDoor
open Go.RowKit

theorem own_lt {u : World} {base : Nat} {e : TypeId} {s : Nat} {v : Value} {n : Nat} {xs : List Value} (h : u.ownsRow base e s v n xs) {g : Nat} (hg : v.ownBlock = some g) : g < u.heap.size := by
  rcases h.2 with ⟨rfl, _⟩ | ⟨b, cap, cur, rfl, _, hb, _⟩
  · cases hg
  · simp [Value.ownBlock] at hg
    subst hg
    exact (Array.getElem?_eq_some_iff.1 hb).1
theorem own_ne {u : World} {base base' : Nat} {e e' : TypeId} {s s' : Nat} {v v' : Value} {n n' : Nat} {xs xs' : List Value} (h : u.ownsRow base e s v n xs) (h' : u.ownsRow base' e' s' v' n' xs') (he : e ≠ e') {g : Nat} (hg : v.ownBlock = some g) : v'.ownBlock ≠ some g := by
  intro hg'
  rcases h.2 with ⟨rfl, _⟩ | ⟨b, cap, cur, rfl, _, hb, _⟩
  · cases hg
  · rcases h'.2 with ⟨rfl, _⟩ | ⟨b', cap', cur', rfl, _, hb', _⟩
    · cases hg'
    · simp [Value.ownBlock] at hg hg'
      subst hg hg'
      rw [hb] at hb'
      simp at hb'
      exact he hb'.2
/-- a row of hunks of one's own -/
structure Hs (w : World) (ov : Value) (P : List (Hk × Value)) (u : World) : Prop where
  low : Below w.heap.size w u
  own : u.ownsRow w.heap.size 43 5 ov P.length (hkcells P)
  ins : ∀ x ∈ P, u.ownsRow w.heap.size 91 2 x.2 x.1.ls.length (mkcells x.1.ls)
theorem Hs.nil (w : World) : Hs w (.slice none 0 0) [] w := ⟨Below.refl _ _, hnil_row _ _ _ _, fun _ h => by cases h⟩
theorem Hs.alloc {w : World} {ov : Value} {P : List (Hk × Value)} {u : World} (h : Hs w ov P u) (o : Obj) : Hs w ov P (u.alloc o) := ⟨h.low.alloc h.low.size o, h.own.alloc o, fun x hx => (h.ins x hx).alloc o⟩
theorem Hs.drewN {w : World} {ov : Value} {P : List (Hk × Value)} {u : World} (h : Hs w ov P u) (n : Nat) : Hs w ov P (u.drewN n) := ⟨Below.dN h.low n, h.own, h.ins⟩
/-- what is written lies in a block that is none of theirs -/
theorem Hs.grown {w : World} {ov : Value} {P : List (Hk × Value)} {u u' : World} (h : Hs w ov P u) {g : Option Nat} (hg : u.grownBy u' g) (hb : ∀ k, g = some k → w.heap.size ≤ k) (h1 : ∀ k, g = some k → ov.ownBlock ≠ some k) (h2 : ∀ x ∈ P, ∀ k, g = some k → x.2.ownBlock ≠ some k) : Hs w ov P u' := by
  have key : ∀ {e : TypeId} {s : Nat} {v : Value} {n : Nat} {xs : List Value}, u.ownsRow w.heap.size e s v n xs → (∀ k, g = some k → v.ownBlock ≠ some k) → u'.ownsRow w.heap.size e s v n xs := by
    intro e s v n xs ho hne
    refine ⟨ho.1, ?_⟩
    rcases ho.2 with q | ⟨b, cap, cur, rfl, q2, q3, q4⟩
    · exact .inl q
    · refine .inr ⟨b, cap, cur, rfl, q2, ?_, q4⟩
      rw [hg.block b (Array.getElem?_eq_some_iff.1 q3).1 (fun e => hne b e.symm rfl)]
      exact q3
  exact ⟨h.low.grown hg h.low.size (fun k hk => hb k hk), key h.own h1, fun x hx => key (h.ins x hx) (h2 x hx)⟩
theorem Hs.lt {w : World} {ov : Value} {P : List (Hk × Value)} {u : World} (h : Hs w ov P u) : (∀ k, ov.ownBlock = some k → k < u.heap.size) ∧ ∀ x ∈ P, ∀ k, x.2.ownBlock = some k → k < u.heap.size := ⟨fun _ hk => own_lt h.own hk, fun x hx _ hk => own_lt (h.ins x hx) hk⟩
/-- one that is new, a box or a row, is none of theirs -/
theorem Hs.fresh {w : World} {ov : Value} {P : List (Hk × Value)} {u u1 u' : World} (h : Hs w ov P u) (h1 : Hs w ov P u1) {k : Nat} (hk : u.heap.size ≤ k) (hg : u1.grownBy u' (some k)) : Hs w ov P u' := by
  have hl := h.lt
  have hs := h.low.size
  refine h1.grown hg (fun j hj => by cases hj; omega) (fun j hj => by cases hj; intro e; have := hl.1 _ e; omega) (fun x hx j hj => by cases hj; intro e; have := hl.2 x hx _ e; omega)
/-- what it holds -/
theorem Hs.holds {w : World} {ov : Value} {P : List (Hk × Value)} {u : World} (h : Hs w ov P u) : HHp u ov P := ⟨holds_of h.own, fun x hx => holds_of (h.ins x hx)⟩
/-- a hunk more -/
theorem Hs.more {w : World} {ov : Value} {P : List (Hk × Value)} {u u' : World} (h : Hs w ov P u) {x : Hk} {y ov' : Value} (hy : u.ownsRow w.heap.size 91 2 y x.ls.length (mkcells x.ls)) (hg : u.grownBy u' ov.ownBlock) (ho : u'.ownsRow w.heap.size 43 5 ov' (P.length + 1) (hkcells P ++ hkC x y)) : Hs w ov' (P ++ [(x, y)]) u' := by
  have key : ∀ {v : Value} {n : Nat} {xs : List Value}, u.ownsRow w.heap.size 91 2 v n xs → u'.ownsRow w.heap.size 91 2 v n xs := by
    intro v n xs hv
    refine ⟨hv.1, ?_⟩
    rcases hv.2 with q | ⟨b, cap, cur, rfl, q2, q3, q4⟩
    · exact .inl q
    · refine .inr ⟨b, cap, cur, rfl, q2, ?_, q4⟩
      rw [hg.block b (Array.getElem?_eq_some_iff.1 q3).1 (fun e => own_ne h.own hv (by decide) e.symm rfl)]
      exact q3
  refine ⟨h.low.grown hg h.low.size (fun j hj => owns_ge h.own hj), ?_, fun z hz => ?_⟩
  · rw [hkcells_append, List.length_append]
    have e : hkcells [(x, y)] = hkC x y := by simp [hkcells]
    rw [e]
    exact ho
  · rcases List.mem_append.1 hz with hz | hz
    · exact key (h.ins z hz)
    · rw [List.mem_singleton.1 hz]
      exact key hy
/-- one hunk, as a new row of one -/
theorem one_row (w : World) (x : Hk) (y : Value) : Holds (w.alloc (hkO x y)) (.slice (some ⟨w.heap.size, 0, none⟩) 1 1) 1 (hkC x y) := new_holds w #[.int .i64 x.A, .int .i64 x.AN, .int .i64 x.B, .int .i64 x.BN, y] 43 1 1 (by decide)
theorem hkC_one (x : Hk) {o : Option Addr} {n c : Nat} : ∀ u ∈ hkC x (.slice o n c), u.oneCell' = true := by
  intro u hu
  simp only [hkC, List.mem_cons, List.not_mem_nil, or_false] at hu
  rcases hu with rfl | rfl | rfl | rfl | rfl <;> rfl
theorem Hx.setl {u : World} {b : Nat} {h : Hk} {v : Value} (q : Hx u b h v) (z : Value) : Hx (u.setCell ⟨b, 4, none⟩ z) b h z := heap_setCell_same u b 4 _ _ z q

end Go.Proofs.YtgiojkhmkeocfaaDoor

/- The code's small functions of layer 11, walked: the lines of a side, numbers, places, signs. -/
namespace Go.Proofs.YtgiojkhmkeocfaaDoor
open Go.RowKit

/-- which sign a side has, and which it has not -/
def Sd (sg no : Int) : Prop := sg = 45 ∧ no = 43 ∨ sg = 43 ∧ no = 45
theorem sd_iff {sg no : Int} (h : Sd sg no) (s : Int) : (s ≠ no ∧ okS s = true) ↔ (s = 32 ∨ s = sg) := by
  simp only [okS, Bool.or_eq_true, decide_eq_true_eq]
  rcases h with ⟨rfl, rfl⟩ | ⟨rfl, rfl⟩ <;> omega
theorem pk_take {sg no : Int} (h : Sd sg no) {s : Int} (hs : s = 32 ∨ s = sg) {out R : List (List UInt8)} {tx : List UInt8} {l : List Mk} (hI : out ++ (if s ≠ no ∧ okS s = true then tx :: pkL no l else pkL no l) = R) : out ++ [tx] ++ pkL no l = R := by
  rw [if_pos ((sd_iff h s).2 hs)] at hI
  rw [← hI]
  simp
theorem pk_pass {sg no : Int} (h : Sd sg no) {s : Int} (h1 : s ≠ 32) (h2 : s ≠ sg) {out R : List (List UInt8)} {tx : List UInt8} {l : List Mk} (hI : out ++ (if s ≠ no ∧ okS s = true then tx :: pkL no l else pkL no l) = R) : out ++ pkL no l = R := by
  rw [if_neg (fun q => by rcases (sd_iff h s).1 q with q | q <;> contradiction)] at hI
  exact hI

theorem owns_less {u : World} {base base' : Nat} {e : TypeId} {s : Nat} {v : Value} {n : Nat} {xs : List Value} (h : u.ownsRow base e s v n xs) (hb : base' ≤ base) : u.ownsRow base' e s v n xs := by
  refine ⟨h.1, ?_⟩
  rcases h.2 with q | ⟨b, cap, cur, rfl, q2, q3, q4⟩
  · exact .inl q
  · exact .inr ⟨b, cap, cur, rfl, Nat.le_trans hb q2, q3, q4⟩

set_option maxHeartbeats 2000000 in
theorem hside_o (h : Hk) (v : Value) (sd no : Int) (HSD : Hid (Sd sd no)) (w : World) (hv : HMk w v h.ls) (hl : h.ls.length ≤ 1099511627776) (R : List (List UInt8)) (HR : Hid (pkL no h.ls = R)) : Calls Tryd.prog 73 #[hkV h v, .int .u8 sd] w fun e w' => ∃ v', e = .returned v' ∧ w'.ownsRow w.heap.size 9 1 v' R.length (scells R) ∧ Below w.heap.size w w' := by
  obtain ⟨A, AN, B, BN, ls⟩ := h
  dsimp only at hv hl HR
  obtain ⟨lo, lc, rfl⟩ := HMk.form hv
  have hx := Hx.new w ⟨A, AN, B, BN, ls⟩ (.slice lo ls.length lc)
  have hBl : Below w.heap.size w (w.alloc (hkO ⟨A, AN, B, BN, ls⟩ (.slice lo ls.length lc))) := (Below.refl _ w).alloc (Nat.le_refl _) _
  have hv1 := HMk.keep hv hBl (Nat.le_refl _)
  obtain ⟨_, _, _, _, x4⟩ := hx.cells
  have hW : w.alloc (Obj.cells #[Value.int IntKind.i64 A, Value.int IntKind.i64 AN, Value.int IntKind.i64 B, Value.int IntKind.i64 BN, .slice lo ls.length lc] 43) = w.alloc (hkO ⟨A, AN, B, BN, ls⟩ (.slice lo ls.length lc)) := rfl
  have HSZ : Hid ((w.alloc (hkO ⟨A, AN, B, BN, ls⟩ (.slice lo ls.length lc))).heap.size = w.heap.size + 1) := (by show _ = _; simp)
  unfold hkV
  dsimp only
  clear hv hx
  generalize w.alloc (hkO ⟨A, AN, B, BN, ls⟩ (.slice lo ls.length lc)) = W at *
  go_enter Tryd.func73, Tryd.ntmps73
  go_wp2
  clear hW x4
  go_loopw [5, 11] (fun ov iv wr => ∃ (k : Nat) (out : List (List UInt8)), k ≤ ls.length ∧ out.length ≤ k ∧ iv = .int .i64 (k : Int) ∧ (∃ oo oc, ov = .slice oo out.length oc) ∧ St W 9 1 ov out.length (scells out) wr ∧ Hid (out ++ pkL no (ls.drop k) = R)) (fun _ iv _ => ls.length - (intOf iv).toNat)
  case atStart => exact ⟨0, [], Nat.zero_le _, Nat.le_refl _, by go_num, ⟨_, _, rfl⟩, ⟨hnil_row _ _ _ _, Below.refl _ _⟩, HR⟩
  case round =>
    obtain ⟨k, out, hk, hok, rfl, ⟨oo, oc, rfl⟩, hS, HI⟩ := hrel
    by_cases hlt : k < ls.length
    · obtain ⟨b, off, rfl, hb, _⟩ := HMk.at hv1 (by omega)
      obtain ⟨m, hm⟩ : ∃ m, ls[k] = m := ⟨_, rfl⟩
      obtain ⟨c0, c1⟩ := Low.mk hS.low hv1 k hlt hm
      have HI2 : Hid (out ++ (if m.sg ≠ no ∧ okS m.sg = true then m.tx :: pkL no (ls.drop (k + 1)) else pkL no (ls.drop (k + 1))) = R) := (by
        show _ = _
        rw [← HI.out, List.drop_eq_getElem_cons hlt, hm]
        rfl)
      have i1 : 0 ≤ (k : Int) := by omega
      have i2 : (k : Int) < (ls.length : Int) := by omega
      obtain ⟨m0, m1⟩ := (Mx.new wr m).cells
      have hS1 := st_alloc (mkO m) hS
      have hsS := hS.low.size
      have HSM : Hid ((wr.alloc (mkO m)).heap.size = wr.heap.size + 1) := (by show _ = _; simp)
      have hW2 : wr.alloc (Obj.cells #[Value.int IntKind.u8 m.sg, Value.string ⟨m.tx.toArray⟩] 91) = wr.alloc (mkO m) := rfl
      clear HI hm HR
      go_upto_region 5 with fail
      obtain ⟨sg, tx⟩ := m
      dsimp only at m0 m1 c0 c1 HI2 hW2
      generalize hwr1 : wr.alloc (mkO ⟨sg, tx⟩) = wr1 at *
      clear hW2
      have hs1 := hS1.low.size
      by_cases h1 : sg = 32
      · subst h1
        have HI3 : Hid (out ++ [tx] ++ pkL no (ls.drop (k + 1)) = R) := pk_take HSD.out (.inl rfl) HI2.out
        clear HI2
        go_wp2_with (at_builtin; refine wpList_append_h _ (by kernel_rfl) (.tmp 24) (.tmp 27) 23 9 (.string ⟨#[]⟩) 1 16 rfl Tryd.underlying23 infoStr rfl (by decide) (by decide) W.heap.size _ _ _ rfl (hS1.own.alloc _) _ 1 (scells [tx]) rfl (new_holds _ _ _ _ _ (by decide)) rfl (scells_one _) (by omega) (by simp; omega) ?_)
        intro v2 w2 hown2 hgrow2
        have hB2 : Below W.heap.size W w2 := (hS1.low.alloc hS1.low.size _).grown hgrow2 (by simp; omega) (fun _ hj => owns_ge hS1.own hj)
        rw [← scells_append] at hown2
        obtain ⟨oo2, oc2, rfl⟩ := (holds_of hown2).form
        clear hgrow2
        go_wp2
        exact ⟨⟨k + 1, out ++ [tx], by omega, by simp; omega, by go_num, ⟨_, _, by rw [List.length_append]; rfl⟩, ⟨by rw [List.length_append]; exact hown2, hB2⟩, HI3⟩, by simp [intOf]; omega⟩
      · have e1 : (sg == 32) = false := by simpa using h1
        by_cases h2 : sg = sd
        · subst h2
          have HI3 : Hid (out ++ [tx] ++ pkL no (ls.drop (k + 1)) = R) := pk_take HSD.out (.inr rfl) HI2.out
          clear HI2 h1
          go_wp2_with (at_builtin; refine wpList_append_h _ (by kernel_rfl) (.tmp 24) (.tmp 27) 23 9 (.string ⟨#[]⟩) 1 16 rfl Tryd.underlying23 infoStr rfl (by decide) (by decide) W.heap.size _ _ _ rfl (hS1.own.alloc _) _ 1 (scells [tx]) rfl (new_holds _ _ _ _ _ (by decide)) rfl (scells_one _) (by omega) (by simp; omega) ?_)
          intro v2 w2 hown2 hgrow2
          have hB2 : Below W.heap.size W w2 := (hS1.low.alloc hS1.low.size _).grown hgrow2 (by simp; omega) (fun _ hj => owns_ge hS1.own hj)
          rw [← scells_append] at hown2
          obtain ⟨oo2, oc2, rfl⟩ := (holds_of hown2).form
          clear hgrow2
          go_wp2
          exact ⟨⟨k + 1, out ++ [tx], by omega, by simp; omega, by go_num, ⟨_, _, by rw [List.length_append]; rfl⟩, ⟨by rw [List.length_append]; exact hown2, hB2⟩, HI3⟩, by simp [intOf]; omega⟩
        · have e2 : (sg == sd) = false := by simpa using h2
          have HI3 : Hid (out ++ pkL no (ls.drop (k + 1)) = R) := pk_pass HSD.out h1 h2 HI2.out
          clear HI2 h1 h2
          go_wp2
          exact ⟨⟨k + 1, out, by omega, by omega, by go_num, ⟨_, _, rfl⟩, hS1, HI3⟩, by simp [intOf]; omega⟩
    · have HI3 : Hid (out = R) := (by
        have h := HI.out
        rw [List.drop_of_length_le (by omega)] at h
        show out = R
        simpa [pkL] using h)
      clear HI
      have hend : decide ((k : Int) < (ls.length : Int)) = false := decide_eq_false (by omega)
      go_wp2
      go_ret
      refine ⟨_, rfl, ?_, hBl.trans (hS.low.mono (by have := HSZ.out; omega))⟩
      rw [← HI3.out]
      exact owns_less hS.own (by have := HSZ.out; omega)
theorem hOld_o (h : Hk) (v : Value) (w : World) (hv : HMk w v h.ls) (hl : h.ls.length ≤ 1099511627776) (R : List (List UInt8)) (HR : Hid (oldL h = R)) : Calls Tryd.prog 32 #[hkV h v] w fun e w' => ∃ v', e = .returned v' ∧ w'.ownsRow w.heap.size 9 1 v' R.length (scells R) ∧ Below w.heap.size w w' := by
  have hBl : Below w.heap.size w (w.alloc (hkO h v)) := (Below.refl _ w).alloc (Nat.le_refl _) _
  have hv1 := HMk.keep hv hBl (Nat.le_refl _)
  obtain ⟨c0, c1, c2, c3, c4⟩ := (Hx.new w h v).cells
  unfold hkO at c0 c1 c2 c3 c4 hBl hv1
  obtain ⟨lo, lc, rfl⟩ := HMk.form hv
  have e : hkV h (.slice lo h.ls.length lc) = .agg #[.int .i64 h.A, .int .i64 h.AN, .int .i64 h.B, .int .i64 h.BN, .slice lo h.ls.length lc] := rfl
  rw [e]
  go_enter Tryd.func32, Tryd.ntmps32
  go_wp2_with fail
  refine (hside_o h _ 45 43 (.inl ⟨rfl, rfl⟩) _ hv1 hl R HR).mono ?_
  rintro e w1 ⟨v1, rfl, hv1, hB1⟩
  obtain ⟨vo, vc, rfl⟩ := Holds.form (holds_of hv1)
  go_wp2
  go_ret
  exact ⟨_, rfl, owns_less hv1 hBl.size, hBl.trans (hB1.mono hBl.size)⟩
theorem hNew_o (h : Hk) (v : Value) (w : World) (hv : HMk w v h.ls) (hl : h.ls.length ≤ 1099511627776) (R : List (List UInt8)) (HR : Hid (newL h = R)) : Calls Tryd.prog 34 #[hkV h v] w fun e w' => ∃ v', e = .returned v' ∧ w'.ownsRow w.heap.size 9 1 v' R.length (scells R) ∧ Below w.heap.size w w' := by
  have hBl : Below w.heap.size w (w.alloc (hkO h v)) := (Below.refl _ w).alloc (Nat.le_refl _) _
  have hv1 := HMk.keep hv hBl (Nat.le_refl _)
  obtain ⟨c0, c1, c2, c3, c4⟩ := (Hx.new w h v).cells
  unfold hkO at c0 c1 c2 c3 c4 hBl hv1
  obtain ⟨lo, lc, rfl⟩ := HMk.form hv
  have e : hkV h (.slice lo h.ls.length lc) = .agg #[.int .i64 h.A, .int .i64 h.AN, .int .i64 h.B, .int .i64 h.BN, .slice lo h.ls.length lc] := rfl
  rw [e]
  go_enter Tryd.func34, Tryd.ntmps34
  go_wp2_with fail
  refine (hside_o h _ 43 45 (.inr ⟨rfl, rfl⟩) _ hv1 hl R HR).mono ?_
  rintro e w1 ⟨v1, rfl, hv1, hB1⟩
  obtain ⟨vo, vc, rfl⟩ := Holds.form (holds_of hv1)
  go_wp2
  go_ret
  exact ⟨_, rfl, owns_less hv1 hBl.size, hBl.trans (hB1.mono hBl.size)⟩
theorem hnumberOf_f (a n : Int) (w : World) (h1 : -4611686018427387904 ≤ a) (h2 : a ≤ 4611686018427387904) (r : Int) (HR : Hid ((if 0 < n then a + 1 else a) = r)) : Calls Tryd.prog 109 #[.int .i64 a, .int .i64 n] w fun e w' => e = .returned (.int .i64 r) ∧ w' = w := by
  have hr := HR.out
  clear HR
  go_enter Tryd.func109, Tryd.ntmps109
  by_cases h : 0 < n
  · rw [if_pos h] at hr
    subst hr
    go_wp2
    go_ret
    exact ⟨by go_num, rfl⟩
  · rw [if_neg h] at hr
    subst hr
    have e : decide (0 < n) = false := decide_eq_false h
    go_wp2
    go_ret
    exact ⟨rfl, rfl⟩
end Go.Proofs.YtgiojkhmkeocfaaDoor

/- The reference's Invert of layer 11, walked. -/
namespace Go.Proofs.YtgiojkhmkeocfaaDoor
open Go.RowKit

/-- two operations that yield values, whichever comes first -/
theorem go_two {P : Program} {S : World → Prop} {md : Region.Mode} {ops : Array Oper} {Q : Exit → Act → World → Prop} {fuel : Nat} {listed : Array Bool} {A : Act} {w : World}
    (i d : Nat) (op : Oper) (j e : Nat) (oq : Oper) (hi : ops[i]? = some op) (hd : op.dst = some d) (hj : ops[j]? = some oq) (he : oq.dst = some e) (hr : Region.ready md ops listed = [i, j]) (hwt : Region.wanted op (yielded ops A.tmps) = true) (hwq : Region.wanted oq (yielded ops A.tmps) = true)
    (vp : Value) (wp : World) (hp : (execOp A.eval op).run P w = .ok (.value vp) wp) (hSp : S wp)
    (vq : Value) (wq : World) (hq : (execOp A.eval oq).run P w = .ok (.value vq) wq) (hSq : S wq)
    (h : wpAnyH P md ops Q S fuel (listed.setIfInBounds i true) (A.put (some d) vp) wp)
    (h2 : wpAnyH P md ops Q S fuel (listed.setIfInBounds j true) (A.put (some e) vq) wq) :
    wpAnyH P md ops Q S (fuel + 1) listed A w := by
  refine wpAnyH_ready hr (by simp) (AllReadyH.cons hi (fun K hK => ?_) (AllReadyH.cons hj (fun K hK => ?_) AllReadyH.nil))
  · refine step_want hwt ?_
    unfold Oper.wp
    rw [hp, Oper.upon_value]
    exact hK.out _ _ hSp (fun _ => by rw [hd]; exact h)
  · refine step_want hwq ?_
    unfold Oper.wp
    rw [hq, Oper.upon_value]
    exact hK.out _ _ hSq (fun _ => by rw [he]; exact h2)
/-- append, run by itself -/
theorem exec_app {w w' : World} {T : TypeId} {v vx v' : Value} {op : Oper} (x y : Operand) (ho : op.op = .call { callee := .builtin .append, args := #[x, y], argTypes := #[T, T] }) {ev : Operand → Value} (hx : ev x = v) (hy : ev y = vx) (hr : (Builtin.append_ #[T, T] op.type #[v, vx]).run Tryd.prog w = .ok v' w') :
    (execOp ev op).run Tryd.prog w = .ok (.value v') w' := by
  simp [execOp, ho, resolve, invoke, builtin, hx, hy, hr, Result.andThen]
/-- lines that grow in a hunk's box, and lines that wait: all else as it was -/
structure Iv (w : World) (q : Hk) (ov : Value) (x : List Mk) (av : Value) (y : List Mk) (u : World) : Prop where
  low : Below w.heap.size w u
  box : Hx u w.heap.size q ov
  own : u.ownsRow (w.heap.size + 1) 91 2 ov x.length (mkcells x)
  add : u.ownsRow (w.heap.size + 1) 91 2 av y.length (mkcells y)
  ne : ∀ g, ov.ownBlock = some g → av.ownBlock ≠ some g
section
variable {w : World} {q : Hk} {ov ov' av av' : Value} {x x' y y' : List Mk} {u u' : World}
theorem Iv.alloc (h : Iv w q ov x av y u) (o : Obj) : Iv w q ov x av y (u.alloc o) :=
  ⟨h.low.alloc h.low.size o, h.box.low ((Below.refl _ u).alloc (Nat.le_refl _) o), h.own.alloc o, h.add.alloc o, h.ne⟩
theorem Iv.drewN (h : Iv w q ov x av y u) (n : Nat) : Iv w q ov x av y (u.drewN n) := ⟨Below.dN h.low n, h.box, h.own, h.add, h.ne⟩
theorem own_kept {e : TypeId} {s B : Nat} {v : Value} {n : Nat} {xs : List Value} (ho : u.ownsRow B e s v n xs) {g : Option Nat} (hg : u.grownBy u' g) (hne : ∀ k, g = some k → v.ownBlock ≠ some k) : u'.ownsRow B e s v n xs := by
  refine ⟨ho.1, ?_⟩
  rcases ho.2 with q | ⟨b, cap, cur, rfl, q2, q3, q4⟩
  · exact .inl q
  · refine .inr ⟨b, cap, cur, rfl, q2, ?_, q4⟩
    rw [hg.block b (Array.getElem?_eq_some_iff.1 q3).1 (fun e => hne b e.symm rfl)]
    exact q3
/-- lines more -/
theorem Iv.grow (h : Iv w q ov x av y u) (hg : u.grownBy u' ov.ownBlock) (ho : u'.ownsRow (w.heap.size + 1) 91 2 ov' x'.length (mkcells x')) (hb : ov'.ownBlock = ov.ownBlock ∨ ov'.ownBlock = some u.heap.size) : Hx u' w.heap.size q ov ∧ Iv w q ov' x' av y (u'.setCell ⟨w.heap.size, 4, none⟩ ov') := by
  have hbx : Hx u' w.heap.size q ov := h.box.keep hg (fun e => by have := owns_ge h.own e.symm; omega)
  have hadd := own_kept h.add hg (fun k hk => h.ne k hk)
  have hs := grown_set u' w.heap.size 4 ov'
  have hlow : Below w.heap.size w u' := h.low.grown hg h.low.size (fun j hj => by have := owns_ge h.own hj; omega)
  refine ⟨hbx, hlow.grown hs hlow.size (fun j hj => by cases hj; exact Nat.le_refl _), hbx.setl ov', own_kept ho hs ?_, own_kept hadd hs ?_, ?_⟩
  · intro k hk e
    cases hk
    have := owns_ge ho e
    omega
  · intro k hk e
    cases hk
    have := owns_ge h.add e
    omega
  · intro g hg' e
    rcases hb with hb | hb
    · rw [hb] at hg'
      exact h.ne g hg' e
    · rw [hb] at hg'
      cases hg'
      have := own_lt h.add e
      omega
/-- lines more that wait -/
theorem Iv.wait (h : Iv w q ov x av y u) (hg : u.grownBy u' av.ownBlock) (ho : u'.ownsRow (w.heap.size + 1) 91 2 av' y'.length (mkcells y')) (hb : av'.ownBlock = av.ownBlock ∨ av'.ownBlock = some u.heap.size) : Iv w q ov x av' y' u' := by
  refine ⟨h.low.grown hg h.low.size (fun j hj => by have := owns_ge h.add hj; omega), h.box.keep hg (fun e => by have := owns_ge h.add e.symm; omega), own_kept h.own hg (fun k hk e => h.ne k e hk), ho, ?_⟩
  intro g hg' e
  rcases hb with hb | hb
  · rw [hb] at e
    exact h.ne g hg' e
  · rw [hb] at e
    cases e
    have := own_lt h.own hg'
    omega
/-- lines more, and none that wait -/
theorem Iv.last (h : Iv w q ov x av y u) (hg : u.grownBy u' ov.ownBlock) (ho : u'.ownsRow (w.heap.size + 1) 91 2 ov' x'.length (mkcells x')) : Hx u' w.heap.size q ov ∧ Iv w q ov' x' (.slice none 0 0) [] (u'.setCell ⟨w.heap.size, 4, none⟩ ov') := by
  have hbx : Hx u' w.heap.size q ov := h.box.keep hg (fun e => by have := owns_ge h.own e.symm; omega)
  have hs := grown_set u' w.heap.size 4 ov'
  have hlow : Below w.heap.size w u' := h.low.grown hg h.low.size (fun j hj => by have := owns_ge h.own hj; omega)
  refine ⟨hbx, hlow.grown hs hlow.size (fun j hj => by cases hj; exact Nat.le_refl _), hbx.setl ov', own_kept ho hs ?_, hnil_row _ _ _ _, fun g _ e => by cases e⟩
  intro k hk e
  cases hk
  have := owns_ge ho e
  omega
theorem Hx.put5 {b : Nat} {h : Hk} {v : Value} (p : Hx u b h v) (z0 z1 z2 z3 z4 : Value) : (((((u.setCell ⟨b, 0, none⟩ z0).setCell ⟨b, 1, none⟩ z1).setCell ⟨b, 2, none⟩ z2).setCell ⟨b, 3, none⟩ z3).setCell ⟨b, 4, none⟩ z4).heap[b]? = some (.cells #[z0, z1, z2, z3, z4] 43 (0, 0)) := by
  have s1 := heap_setCell_same u b 0 _ _ z0 p
  have s2 := heap_setCell_same _ b 1 _ _ z1 s1
  have s3 := heap_setCell_same _ b 2 _ _ z2 s2
  have s4 := heap_setCell_same _ b 3 _ _ z3 s3
  exact heap_setCell_same _ b 4 _ _ z4 s4
theorem own_base {e : TypeId} {s B B' : Nat} {v : Value} {n : Nat} {xs : List Value} (ho : u.ownsRow B e s v n xs) (hB : B' ≤ B) : u.ownsRow B' e s v n xs := by
  refine ⟨ho.1, ?_⟩
  rcases ho.2 with q | ⟨b, cap, cur, rfl, q2, q3, q4⟩
  · exact .inl q
  · exact .inr ⟨b, cap, cur, rfl, by omega, q3, q4⟩
theorem Iv.none (h : Iv w q ov x av y u) : Iv w q ov x (.slice none 0 0) [] u := ⟨h.low, h.box, h.own, hnil_row _ _ _ _, fun g _ e => by cases e⟩
end
theorem mk_row (w : World) (m : Mk) : Holds (w.alloc (mkO m)) (.slice (some ⟨w.heap.size, 0, none⟩) 1 1) 1 (mkcells [m]) := new_holds w #[.int .u8 m.sg, .string ⟨m.tx.toArray⟩] 91 1 1 (by decide)

end Go.Proofs.YtgiojkhmkeocfaaDoor

/- The reference's count of layer 11, walked. -/
namespace Go.Proofs.YtgiojkhmkeocfaaDoor
open Go.RowKit

section
variable {u : World} {b : Nat} {A AN B BN : Int} {ls : List Mk} {v : Value}
theorem Hx.setA (q : Hx u b ⟨A, AN, B, BN, ls⟩ v) (z : Int) : Hx (u.setCell ⟨b, 0, none⟩ (.int .i64 z)) b ⟨z, AN, B, BN, ls⟩ v := heap_setCell_same u b 0 _ _ _ q
theorem Hx.setAN (q : Hx u b ⟨A, AN, B, BN, ls⟩ v) (z : Int) : Hx (u.setCell ⟨b, 1, none⟩ (.int .i64 z)) b ⟨A, z, B, BN, ls⟩ v := heap_setCell_same u b 1 _ _ _ q
theorem Hx.setB (q : Hx u b ⟨A, AN, B, BN, ls⟩ v) (z : Int) : Hx (u.setCell ⟨b, 2, none⟩ (.int .i64 z)) b ⟨A, AN, z, BN, ls⟩ v := heap_setCell_same u b 2 _ _ _ q
theorem Hx.setBN (q : Hx u b ⟨A, AN, B, BN, ls⟩ v) (z : Int) : Hx (u.setCell ⟨b, 3, none⟩ (.int .i64 z)) b ⟨A, AN, B, z, ls⟩ v := heap_setCell_same u b 3 _ _ _ q
theorem Hx.other (q : Hx u b ⟨A, AN, B, BN, ls⟩ v) {g : Nat} (hg : b ≠ g) (j : Nat) (z : Value) : Hx (u.setCell ⟨g, j, none⟩ z) b ⟨A, AN, B, BN, ls⟩ v := q.keep (grown_set u g j z) (fun e => hg (Option.some.inj e))
end

end Go.Proofs.YtgiojkhmkeocfaaDoor

/- The reference's one of layer 11, walked. -/
namespace Go.Proofs.YtgiojkhmkeocfaaDoor
open Go.RowKit

/-- a change in a box -/
def chO (c : Ch) : Obj := .cells #[.int .i64 c.A, .int .i64 c.AN, .int .i64 c.B, .int .i64 c.BN] 73
def Cx (u : World) (b : Nat) (c : Ch) : Prop := u.heap[b]? = some (chO c)
section
variable {u u' : World} {b : Nat} {c : Ch}
theorem Cx.cells (q : Cx u b c) : u.cell? ⟨b, 0, none⟩ = some (.int .i64 c.A) ∧ u.cell? ⟨b, 1, none⟩ = some (.int .i64 c.AN) ∧ u.cell? ⟨b, 2, none⟩ = some (.int .i64 c.B) ∧ u.cell? ⟨b, 3, none⟩ = some (.int .i64 c.BN) := by
  unfold Cx chO at q
  refine ⟨?_, ?_, ?_, ?_⟩ <;> rw [Lib.cell_of_heap q] <;> rfl
theorem Cx.lt (q : Cx u b c) : b < u.heap.size := (Array.getElem?_eq_some_iff.1 q).1
theorem Cx.low (q : Cx u b c) (hg : Below u.heap.size u u') : Cx u' b c := (hg.block b q.lt).trans q
theorem Cx.new (w : World) (c : Ch) : Cx (w.alloc (chO c)) w.heap.size c := _root_.Go.heap_alloc_new w _
end

/-- the cells of a change in a row -/
def ChAt (u : World) (b o : Nat) (x : Ch) : Prop := u.cell? ⟨b, o, none⟩ = some (.int .i64 x.A) ∧ u.cell? ⟨b, o + 1, none⟩ = some (.int .i64 x.AN) ∧ u.cell? ⟨b, o + 2, none⟩ = some (.int .i64 x.B) ∧ u.cell? ⟨b, o + 3, none⟩ = some (.int .i64 x.BN)
theorem hcell_keep {u u' : World} (hB : Low u u') {q : Addr} {z : Value} (hz : u.cell? q = some z) : u'.cell? q = some z := (World.cell?_of_block (w := u) (Below.block hB _ (World.block_lt_of_cell? _ _ hz))).trans hz
theorem ChAt.low {u u' : World} {b o : Nat} {x : Ch} (h : ChAt u b o x) (hB : Low u u') : ChAt u' b o x := ⟨hcell_keep hB h.1, hcell_keep hB h.2.1, hcell_keep hB h.2.2.1, hcell_keep hB h.2.2.2⟩
theorem load_chR {u : World} {b o : Nat} {h : Ch} (q : ChAt u b o h) {op : Oper} (x : Operand) (ho : op.op = .load 73 x) {ev : Operand → Value} (hx : ev x = .pointer (some ⟨b, o, none⟩)) :
    (execOp ev op).run Tryd.prog u = .ok (.value (chV h)) u := by
  obtain ⟨d0, d1, d2, d3⟩ := q
  unfold chV
  simp only [execOp, ho, hx]
  go_simp
theorem Cx.keep {u u' : World} {b : Nat} {c : Ch} (q : Cx u b c) {g : Option Nat} (hg : u.grownBy u' g) (hr : some b ≠ g) : Cx u' b c := (hg.block b q.lt hr).trans q

theorem mks_cons (s : Int) (t : List UInt8) (x : List (List UInt8)) : mks s (t :: x) = ⟨s, t⟩ :: mks s x := rfl

end Go.Proofs.YtgiojkhmkeocfaaDoor

/- The reference's Changes of layer 11, walked. -/
namespace Go.Proofs.YtgiojkhmkeocfaaDoor
open Go.RowKit

/-- a row that is not empty: where it lies -/
theorem hown_at {u : World} {B : Nat} {e : TypeId} {s : Nat} {oo : Option Addr} {n oc : Nat} {xs : List Value} (h : u.ownsRow B e s (.slice oo (n + 1) oc) (n + 1) xs) : ∃ g, oo = some ⟨g, 0, none⟩ := by
  rcases h.2 with ⟨_, h0⟩ | ⟨g, cap, cur, e, _⟩
  · omega
  · cases e
    exact ⟨g, rfl⟩
end Go.Proofs.YtgiojkhmkeocfaaDoor

/- The reference's Group of layer 11, walked. -/
namespace Go.Proofs.YtgiojkhmkeocfaaDoor
open Go.RowKit

theorem infoCs : (Tryd.prog.info? 22).map (fun i => (i.zero, i.size, i.bytes)) = some (some (.slice none 0 0), 1, 24) := by kernel_rfl
/-- groups of one's own: a row of rows of changes -/
structure Gr (w : World) (ov : Value) (G : List (List Ch × Value)) (u : World) : Prop where
  low : Below w.heap.size w u
  own : u.ownsRow w.heap.size 22 1 ov G.length (G.map (·.2))
  ins : ∀ x ∈ G, u.ownsRow w.heap.size 73 4 x.2 x.1.length (chcells x.1)
/-- the last row is none of the others -/
def Lst (G : List (List Ch × Value)) : Prop := ∀ P x, G = P ++ [x] → ∀ y ∈ P, ∀ b, x.2.ownBlock = some b → y.2.ownBlock ≠ some b
section
variable {w u u' : World} {ov ov' : Value} {G P : List (List Ch × Value)}
theorem Gr.nil (w : World) : Gr w (.slice none 0 0) [] w := ⟨Below.refl _ _, hnil_row _ _ _ _, fun _ h => by cases h⟩
theorem Gr.alloc (h : Gr w ov G u) (o : Obj) : Gr w ov G (u.alloc o) := ⟨h.low.alloc h.low.size o, h.own.alloc o, fun x hx => (h.ins x hx).alloc o⟩
theorem Gr.drewN (h : Gr w ov G u) (n : Nat) : Gr w ov G (u.drewN n) := ⟨Below.dN h.low n, h.own, h.ins⟩
theorem Gr.keep (h : Gr w ov G u) (hk : Below u.heap.size u u') : Gr w ov G u' := ⟨h.low.trans (hk.mono h.low.size), owns_keep h.own hk, fun x hx => owns_keep (h.ins x hx) hk⟩
/-- a group more -/
theorem Gr.more (h : Gr w ov G u) {g : List Ch} {gv : Value} (hgv : u.ownsRow w.heap.size 73 4 gv g.length (chcells g)) (hg : u.grownBy u' ov.ownBlock) (ho : u'.ownsRow w.heap.size 22 1 ov' (G.length + 1) (G.map (·.2) ++ [gv])) : Gr w ov' (G ++ [(g, gv)]) u' := by
  have key : ∀ {v : Value} {n : Nat} {xs : List Value}, u.ownsRow w.heap.size 73 4 v n xs → u'.ownsRow w.heap.size 73 4 v n xs := fun hv => own_kept hv hg (fun k hk => own_ne h.own hv (by decide) hk)
  refine ⟨h.low.grown hg h.low.size (fun j hj => owns_ge h.own hj), ?_, fun z hz => ?_⟩
  · rw [List.length_append, List.map_append]
    exact ho
  · rcases List.mem_append.1 hz with hz | hz
    · exact key (h.ins z hz)
    · rw [List.mem_singleton.1 hz]
      exact key hgv
/-- the last group, longer: its row has grown, and the row of rows names it -/
theorem Gr.last {g g' : List Ch} {gv gv' : Value} (h : Gr w ov (P ++ [(g, gv)]) u) (hL : Lst (P ++ [(g, gv)])) (hg : u.grownBy u' gv.ownBlock) (ho : u'.ownsRow w.heap.size 73 4 gv' g'.length (chcells g')) (hb : gv'.ownBlock = gv.ownBlock ∨ gv'.ownBlock = some u.heap.size) :
    ∃ q cap, ov = .slice (some ⟨q, 0, none⟩) (P.length + 1) cap ∧ u'.cell? ⟨q, P.length, none⟩ = some gv ∧ u'.frozen? ⟨q, P.length, none⟩ = false ∧ Gr w ov (P ++ [(g', gv')]) (u'.setCell ⟨q, P.length, none⟩ gv') ∧ Lst (P ++ [(g', gv')]) := by
  have hown := h.own
  rw [List.length_append, List.length_singleton] at hown
  have hgl := h.ins (g, gv) (by simp)
  obtain ⟨oo, oc, hov⟩ := (holds_of hown).form
  subst hov
  obtain ⟨q, rfl⟩ := hown_at hown
  have hown' := own_kept hown hg (fun k hk => own_ne hgl hown (by decide) hk)
  have hst := hown'.stored P.length gv'
  have hset : ((P ++ [(g, gv)]).map (·.2)).set P.length gv' = (P ++ [(g', gv')]).map (·.2) := by simp
  rw [hset] at hst
  have hlow : Below w.heap.size w u' := h.low.grown hg h.low.size (fun j hj => owns_ge hgl hj)
  refine ⟨q, oc, rfl, ?_, hown'.frozenAt _, ⟨hlow.grown hst.2 hlow.size (fun j hj => by cases hj; exact owns_ge hown rfl), ?_, ?_⟩, ?_⟩
  · rw [hown'.cellAt P.length (by omega)]
    simp
  · rw [List.length_append, List.length_singleton]
    exact hst.1
  · intro x hx
    have hqx : ∀ {v : Value} {n : Nat} {xs : List Value}, u'.ownsRow w.heap.size 73 4 v n xs → (u'.setCell ⟨q, P.length, none⟩ gv').ownsRow w.heap.size 73 4 v n xs := fun hv => own_kept hv hst.2 (fun k hk => own_ne hown' hv (by decide) hk)
    rcases List.mem_append.1 hx with hx | hx
    · exact hqx (own_kept (h.ins x (List.mem_append_left _ hx)) hg (fun k hk => hL P (g, gv) rfl x hx k hk))
    · rw [List.mem_singleton.1 hx]
      exact hqx ho
  · intro P' x' he y hy b' hb'
    have he2 := List.append_inj' he rfl
    obtain ⟨rfl, hx'⟩ := he2
    have hx2 : (g', gv') = x' := by simpa using hx'
    subst hx2
    rcases hb with hb | hb
    · rw [hb] at hb'
      exact hL P (g, gv) rfl y hy b' hb'
    · rw [hb] at hb'
      cases hb'
      intro e
      have := own_lt (h.ins y (List.mem_append_left _ hy)) e
      omega
end
theorem right_nums {fl : Bool} {p q n m : Int} {l : List Ch} (h : Right fl p q n m l) : ∀ c ∈ l, numB c = true := by
  induction l generalizing fl p q with
  | nil => intro c hc; cases hc
  | cons d l ih =>
    intro c hc
    rcases List.mem_cons.1 hc with rfl | hc
    · exact h.1.1
    · exact ih h.2 c hc
theorem load_chs {u : World} {a : Addr} {o : Option Addr} {n c : Nat} (h : u.cell? a = some (.slice o n c)) {op : Oper} (x : Operand) (ho : op.op = .load 22 x) {ev : Operand → Value} (hx : ev x = .pointer (some a)) :
    (execOp ev op).run Tryd.prog u = .ok (.value (.slice o n c)) u := by
  simp only [execOp, ho, hx]
  go_simp
theorem exec_storeG {u : World} {b j : Nat} (hf : u.frozen? ⟨b, j, none⟩ = false) {o n c} (hc : u.cell? ⟨b, j, none⟩ = some (.slice o n c)) {o' n' c'} {op : Oper} (x y : Operand) (ho : op.op = .store 22 x y) {ev : Operand → Value} (hx : ev x = .pointer (some ⟨b, j, none⟩)) (hy : ev y = .slice o' n' c') :
    (execOp ev op).run Tryd.prog u = .ok .skip (u.setCell ⟨b, j, none⟩ (.slice o' n' c')) := by
  simp only [execOp, ho, hx, hy]
  go_simp
theorem ch_row (w : World) (c : Ch) : Holds (w.alloc (chO c)) (.slice (some ⟨w.heap.size, 0, none⟩) 1 1) 1 (chcells [c]) := new_holds w #[.int .i64 c.A, .int .i64 c.AN, .int .i64 c.B, .int .i64 c.BN] 73 1 1 (by decide)
theorem map_split {G : List (List Ch × Value)} {gs : List (List Ch)} {g : List Ch} (h : G.map (·.1) = gs ++ [g]) : ∃ P gv, G = P ++ [(g, gv)] ∧ P.map (·.1) = gs := by
  rcases List.eq_nil_or_concat G with rfl | ⟨P, x, rfl⟩
  · have := congrArg List.length h
    simp at this
  · rw [List.concat_eq_append] at h ⊢
    rw [List.map_append] at h
    have h2 := List.append_inj' h rfl
    obtain ⟨gx, gv⟩ := x
    have h3 : gx = g := by simpa using h2.2
    subst h3
    exact ⟨P, gv, rfl, h2.1⟩

/-- is a change near the one ahead of it? -/
def nrB (ctx : Int) (l : List Ch) (i : Nat) (d : Ch) : Bool := match (l.take i).getLast? with
  | none => false
  | some c => decide (d.A - c.A - c.AN ≤ 2 * ctx)
theorem last_take {l : List Ch} {j : Nat} (hj : j < l.length) : (l.take (j + 1)).getLast? = some l[j] := by
  rw [List.take_succ_eq_append_getElem hj, List.getLast?_append]
  simp
theorem grp_take {ctx : Int} {l : List Ch} {i : Nat} (hi : i < l.length) : (nrB ctx l i l[i] = true → ∃ gs gl, grp ctx (l.take i) = gs ++ [gl] ∧ grp ctx (l.take (i + 1)) = gs ++ [gl ++ [l[i]]]) ∧ (nrB ctx l i l[i] = false → grp ctx (l.take (i + 1)) = grp ctx (l.take i) ++ [[l[i]]]) := by
  cases i with
  | zero =>
    refine ⟨fun h => by simp [nrB] at h, fun _ => ?_⟩
    rw [List.take_succ_eq_append_getElem hi]
    rfl
  | succ j =>
    have e1 : l.take (j + 1) = l.take j ++ [l[j]] := List.take_succ_eq_append_getElem (by omega)
    have e2 : l.take (j + 1 + 1) = l.take j ++ [l[j]] ++ [l[j + 1]] := by rw [List.take_succ_eq_append_getElem hi, e1]
    obtain ⟨gs, g, h1, h2⟩ := grp_snoc ctx (l.take j) l[j] l[j + 1]
    have hn : nrB ctx l (j + 1) l[j + 1] = decide (l[j + 1].A - l[j].A - l[j].AN ≤ 2 * ctx) := by
      unfold nrB
      rw [last_take (by omega)]
    rw [hn, e1, e2, h1, h2]
    refine ⟨fun h => ?_, fun h => ?_⟩
    · rw [if_pos (of_decide_eq_true h)]
      exact ⟨gs, g ++ [l[j]], rfl, rfl⟩
    · rw [if_neg (of_decide_eq_false h)]
end Go.Proofs.YtgiojkhmkeocfaaDoor

/- The code's Group of layer 11, walked. -/
namespace Go.Proofs.YtgiojkhmkeocfaaDoor
open Go.RowKit

/-- the groups lie apart from one another -/
def Apt (G : List (List Ch × Value)) : Prop := G.Pairwise fun x y => ∀ b, x.2.ownBlock = some b → y.2.ownBlock ≠ some b
theorem apt_lst {G : List (List Ch × Value)} (h : Apt G) : Lst G := by
  intro P x he y hy b hb e
  subst he
  exact (List.pairwise_append.1 h).2.2 y hy x (by simp) b e hb
theorem apt_more {G : List (List Ch × Value)} (h : Apt G) (g : List Ch) : Apt (G ++ [(g, .slice none 0 0)]) := by
  refine List.pairwise_append.2 ⟨h, List.pairwise_singleton _ _, ?_⟩
  intro x _ y hy b _ e
  rw [List.mem_singleton.1 hy] at e
  cases e
theorem apt_last {P : List (List Ch × Value)} {g g' : List Ch} {gv gv' : Value} (h : Apt (P ++ [(g, gv)])) {w u : World} {ov : Value} (hG : Gr w ov (P ++ [(g, gv)]) u) (hb : gv'.ownBlock = gv.ownBlock ∨ gv'.ownBlock = some u.heap.size) : Apt (P ++ [(g', gv')]) := by
  obtain ⟨h1, _, h3⟩ := List.pairwise_append.1 h
  refine List.pairwise_append.2 ⟨h1, List.pairwise_singleton _ _, ?_⟩
  intro x hx y hy b hxb e
  rw [List.mem_singleton.1 hy] at e
  dsimp only at e
  rcases hb with hb | hb
  · rw [hb] at e
    exact h3 x hx (g, gv) (by simp) b hxb e
  · rw [hb] at e
    cases e
    have := own_lt (hG.ins x (List.mem_append_left _ hx)) hxb
    omega
theorem cx_ne {u : World} {b : Nat} {d : Ch} (h : Cx u b d) {B s n : Nat} {v : Value} {xs : List Value} (ho : u.ownsRow B 22 s v n xs) : v.ownBlock ≠ some b := by
  intro e
  rcases ho.2 with ⟨rfl, _⟩ | ⟨g, cap, cur, rfl, _, hg, _⟩
  · cases e
  · simp only [Value.ownBlock, Option.some.injEq] at e
    subst e
    unfold Cx chO at h
    rw [h] at hg
    simp at hg
theorem exec_nil {u : World} {a : Addr} {op : Oper} (x : Operand) (ho : op.op = .nilCheck x) {ev : Operand → Value} (hx : ev x = .pointer (some a)) : (execOp ev op).run Tryd.prog u = .ok (.value (.pointer (some a))) u := by
  simp only [execOp, ho, hx]
  go_simp
/-- behind the change ahead -/
def enL (l : List Ch) (i : Nat) : Int := match (l.take i).getLast? with
  | none => 0
  | some c => c.A + c.AN
theorem enL_succ {l : List Ch} {i : Nat} (hi : i < l.length) : enL l (i + 1) = l[i].A + l[i].AN := by
  unfold enL
  rw [last_take hi]
theorem nr_en {l : List Ch} {i : Nat} (hi : i < l.length) {ctx : Int} {d : Ch} : nrB ctx l i d = (decide (0 < i) && decide (d.A - enL l i ≤ 2 * ctx)) := by
  cases i with
  | zero => rfl
  | succ j =>
    unfold nrB enL
    rw [last_take (by omega), decide_eq_true (Nat.succ_pos j), Bool.true_and]
    dsimp only
    rw [show d.A - (l[j].A + l[j].AN) = d.A - l[j].A - l[j].AN by omega]
theorem enL_num {l : List Ch} (h : ∀ c ∈ l, numB c = true) {i : Nat} (hi : i ≤ l.length) : 0 ≤ enL l i ∧ enL l i ≤ 4294967296 := by
  cases i with
  | zero => exact ⟨by unfold enL; simp, by unfold enL; simp⟩
  | succ j =>
    rw [enL_succ (by omega)]
    have := (numB_iff l[j]).1 (h _ (List.getElem_mem _))
    omega
theorem nil_row1 (w : World) : Holds (w.alloc (.cells #[.slice none 0 0] 22)) (.slice (some ⟨w.heap.size, 0, none⟩) 1 1) 1 [.slice none 0 0] := new_holds w #[.slice none 0 0] 22 1 1 (by decide)

set_option maxRecDepth 10000 in
set_option maxHeartbeats 16000000 in
theorem hGroup_f (l : List Ch) (n m ctx : Int) (v : Value) (w : World) (hv : HCh w v l) (hl : l.length ≤ 1099511627776) (hn : n ≤ 9223372036854775807) (hm : m ≤ 9223372036854775807) (z : Int) (HZ : Hid (grpE l n m ctx = z)) (R : List (List Ch)) (HR : Hid (grpR l n m ctx = R)) : Calls Tryd.prog 68 #[v, .int .i64 n, .int .i64 m, .int .i64 ctx] w fun e w' => ∃ v' G, e = .returned (.tuple #[v', .int .i64 z]) ∧ Gr w v' G w' ∧ Apt G ∧ G.map (·.1) = R := by
  obtain ⟨vo, lc, rfl⟩ := Holds.form hv
  obtain ⟨ck, hck⟩ : ∃ c, chk l n m = c := ⟨_, rfl⟩
  have HCK : Hid (chk l n m = ck) := hck
  clear hck
  go_enter Tryd.func68, Tryd.ntmps68
  go_wp2_with fail
  refine (Check_f l n m ck _ w hv hl hn hm HCK).mono ?_
  rintro e W ⟨rfl, hBW⟩
  by_cases hc0 : ck = 0
  · subst hc0
    by_cases hx1 : ctx < 0
    · have HE : Hid (z = 2) := (by
        show _ = _
        rw [← HZ.out]
        unfold grpE
        rw [HCK.out]
        simp [hx1])
      have HRN : Hid (R = []) := (by
        show _ = _
        rw [← HR.out]
        unfold grpR
        rw [HZ.out, HE.out, if_neg (by decide)])
      clear HZ HR HCK
      go_wp2
      go_ret2
      rw [HE.out, HRN.out]
      exact ⟨_, [], rfl, ⟨hBW, hnil_row _ _ _ _, fun _ h => by cases h⟩, List.Pairwise.nil, rfl⟩
    · have ex1 : decide (ctx < 0) = false := decide_eq_false hx1
      by_cases hx2 : 100 < ctx
      · have HE : Hid (z = 2) := (by
          show _ = _
          rw [← HZ.out]
          unfold grpE
          rw [HCK.out]
          simp [hx2])
        have HRN : Hid (R = []) := (by
          show _ = _
          rw [← HR.out]
          unfold grpR
          rw [HZ.out, HE.out, if_neg (by decide)])
        clear HZ HR HCK
        go_wp2
        go_ret2
        rw [HE.out, HRN.out]
        exact ⟨_, [], rfl, ⟨hBW, hnil_row _ _ _ _, fun _ h => by cases h⟩, List.Pairwise.nil, rfl⟩
      · have ex2 : decide (100 < ctx) = false := decide_eq_false hx2
        have HZ0 : Hid (z = 0) := (by
          show _ = _
          rw [← HZ.out]
          unfold grpE
          rw [HCK.out]
          simp [hx1, hx2])
        have HR2 : Hid (grp ctx l = R) := (by
          show _ = _
          rw [← HR.out]
          unfold grpR
          rw [HZ.out, HZ0.out, if_pos rfl])
        have HNB : Hid (∀ c ∈ l, numB c = true) := (by
          have h : Script l n m := (by
            have h := HCK.out
            by_cases hq : Script l n m
            · exact hq
            · rw [chk_no hq] at h; cases h)
          exact right_nums h.2.2)
        obtain rfl : z = 0 := HZ0.out
        clear HZ HR HCK HZ0
        go_wp2
        go_loopw [11, 12, 31] (fun ov ev iv wr => ∃ (i : Nat) (G : List (List Ch × Value)) (E : Int), i ≤ l.length ∧ ev = .int .i64 E ∧ iv = .int .i64 (i : Int) ∧ (∃ oo oc, ov = .slice oo G.length oc) ∧ G.length ≤ i ∧ Gr w ov G wr ∧ Hid (Apt G) ∧ Hid (G.map (·.1) = grp ctx (l.take i)) ∧ Hid (enL l i = E)) (fun _ _ iv _ => l.length - (intOf iv).toNat)
        case atStart => exact ⟨0, [], 0, Nat.zero_le _, by go_num, by go_num, ⟨_, _, rfl⟩, Nat.le_refl _, ⟨hBW, hnil_row _ _ _ _, fun _ h => by cases h⟩, List.Pairwise.nil, rfl, rfl⟩
        case round =>
          obtain ⟨i, G, E, hi, rfl, rfl, ⟨oo, oc, rfl⟩, hGi, hS, HAP, HI, HEL⟩ := hrel
          by_cases hlt : i < l.length
          · obtain ⟨lb, lf, rfl, _, _⟩ := HCh.at hv (by omega)
            obtain ⟨d, hd⟩ : ∃ d, l[i] = d := ⟨_, rfl⟩
            have hgA : ChAt wr lb (lf + i * 4) d := (by
              obtain ⟨b', off', e, _, hc'⟩ := HCh.at (HCh.keep hv hS.low (Nat.le_refl _)) (by omega)
              cases e
              have h := hc' i hlt
              rw [hd] at h
              exact h)
            have hnd := (numB_iff d).1 (HNB.out d (by rw [← hd]; exact List.getElem_mem hlt))
            have hEb := enL_num HNB.out hi
            rw [HEL.out] at hEb
            have HEN : Hid (enL l (i + 1) = d.A + d.AN) := (by show _ = _; rw [enL_succ hlt, hd])
            obtain ⟨nr, hnr⟩ : ∃ nr, nrB ctx l i d = nr := ⟨_, rfl⟩
            have HNR : Hid (nrB ctx l i d = nr) := hnr
            have HNE : Hid ((decide (0 < i) && decide (d.A - E ≤ 2 * ctx)) = nr) := (by show _ = _; rw [← hnr, nr_en hlt, HEL.out])
            have hgt := grp_take (ctx := ctx) hlt
            rw [hd] at hgt
            have HGT : Hid ((nrB ctx l i d = true → ∃ gs gl, grp ctx (l.take i) = gs ++ [gl] ∧ grp ctx (l.take (i + 1)) = gs ++ [gl ++ [d]]) ∧ (nrB ctx l i d = false → grp ctx (l.take (i + 1)) = grp ctx (l.take i) ++ [[d]])) := hgt
            have i1 : 0 ≤ (i : Int) := by omega
            have i2 : (i : Int) < (l.length : Int) := by omega
            obtain ⟨d0, d1, d2, d3⟩ := hgA
            have hbc := Cx.new wr d
            obtain ⟨x0, x1, x2, x3⟩ := hbc.cells
            have hS1 := hS.alloc (chO d)
            have hsz0 := hS.low.size
            have HSX : Hid ((wr.alloc (chO d)).heap.size = wr.heap.size + 1) := (by show _ = _; simp)
            have hW : wr.alloc (Obj.cells #[Value.int IntKind.i64 d.A, Value.int IntKind.i64 d.AN, Value.int IntKind.i64 d.B, Value.int IntKind.i64 d.BN] 73) = wr.alloc (chO d) := rfl
            have HIB : Hid (∀ x ∈ G, ∀ j, x.2.ownBlock = some j → j < wr.heap.size) := fun x hx j hj => own_lt (hS.ins x hx) hj
            clear hnr hgt HEL hS
            generalize hwr1 : wr.alloc (chO d) = wr1 at *
            go_upto_region 11 with fail
            clear hW d0 d1 d2 d3
            generalize hbC : wr.heap.size = bc at *
            go_cut [46] from 32 to 68 (fun c wz => c = .bool (!nr) ∧ wr1 = wz)
            case first =>
              by_cases hi0 : i = 0
              · have e1 : ((i : Int) == 0) = true := (by rw [beq_iff_eq]; omega)
                obtain rfl : nr = false := (by rw [← HNE.out, hi0]; rfl)
                clear HI HNR HGT HNE hi0
                go_wp2_with fail
                go_meet
                case rel => exact ⟨rfl, rfl⟩
              · have e1 : ((i : Int) == 0) = false := (by rw [beq_eq_false_iff_ne]; omega)
                have hne := HNE.out
                rw [decide_eq_true (by omega : 0 < i), Bool.true_and] at hne
                have e2 : decide (2 * ctx < d.A - E) = !nr := (by
                  rw [← hne]
                  by_cases hq : d.A - E ≤ 2 * ctx
                  · rw [decide_eq_true hq, decide_eq_false (by omega)]; rfl
                  · rw [decide_eq_false hq, decide_eq_true (by omega)]; rfl)
                clear HI HNR HGT HNE hi0 hne
                go_wp2_with fail
                go_meet
                case rel => exact ⟨rfl, rfl⟩
            case rest =>
            obtain ⟨rfl, rfl⟩ := hcut
            go_upto_if 46 with fail
            go_cut [11] from 32 to 68 (fun ov wz => ∃ (P : List (List Ch × Value)) (gl : List Ch) (gv : Value) (oo : Option Addr) (oc : Nat), ov = .slice oo (P.length + 1) oc ∧ P.length ≤ i ∧ gl.length ≤ l.length ∧ Gr w ov (P ++ [(gl, gv)]) wz ∧ Cx wz bc d ∧ Hid (gv.ownBlock ≠ some bc) ∧ Hid (Apt (P ++ [(gl, gv)])) ∧ Hid (P.map (·.1) ++ [gl ++ [d]] = grp ctx (l.take (i + 1))))
            case first =>
              cases nr with
              | true =>
                obtain ⟨gs, gl, hg1, hg2⟩ := HGT.out.1 HNR.out
                have hI := HI.out
                rw [hg1] at hI
                obtain ⟨P, gv, rfl, hPm⟩ := map_split hI
                have hgll : gl.length ≤ l.length := (by
                  have hf := grp_flatten ctx (l.take i)
                  rw [hg1] at hf
                  have := congrArg List.length hf
                  simp at this
                  omega)
                have HN : Hid (P.map (·.1) ++ [gl ++ [d]] = grp ctx (l.take (i + 1))) := (by show _ = _; rw [hg2, hPm])
                have eP : (P ++ [(gl, gv)]).length = P.length + 1 := by simp
                have hPl : P.length ≤ i := by rw [eP] at hGi; omega
                rw [eP] at hS1 ⊢
                clear HI HNR HGT hg1 hg2 hI hPm HNE hGi eP
                go_wp2_with fail
                go_meet
                case rel => exact ⟨P, gl, gv, _, _, rfl, hPl, hgll, hS1, hbc, fun e => (by have := HIB.out (gl, gv) (by simp) bc e; omega), HAP, HN⟩
              | false =>
                have hg2 := HGT.out.2 HNR.out
                have HN : Hid (G.map (·.1) ++ [[] ++ [d]] = grp ctx (l.take (i + 1))) := (by
                  show _ = _
                  rw [hg2, HI.out]
                  rfl)
                have hS2 := hS1.alloc (.cells #[.slice none 0 0] 22)
                have hrow2 := nil_row1 wr1
                have HS2 : Hid ((wr1.alloc (.cells #[.slice none 0 0] 22)).heap.size = wr1.heap.size + 1) := (by show _ = _; simp)
                have hbc2 : Cx (wr1.alloc (.cells #[.slice none 0 0] 22)) bc d := hbc.low ((Below.refl _ wr1).alloc (Nat.le_refl _) _)
                have hGl : G.length ≤ 1099511627776 := by omega
                have HAM : Hid (Apt (G ++ [([], .slice none 0 0)])) := apt_more HAP.out []
                clear HI HNR HGT hg2 HNE
                go_wp2_with (at_builtin; refine wpList_append_w _ (by kernel_rfl) (.tmp 47) (.tmp 48) 107 22 (.slice none 0 0) 1 24 rfl Tryd.underlying107 infoCs rfl (by decide) (by decide) w.heap.size _ _ _ rfl hS2.own _ 1 [.slice none 0 0] rfl hrow2 rfl (by intro u hu; simp at hu; subst hu; rfl) (by omega) (by have := HS2.out; have := HSX.out; omega) ?_)
                intro v3 u3 hown3 hg3 _
                have hS3 := hS2.more (g := []) (gv := .slice none 0 0) (hnil_row _ _ _ _) hg3 (ov' := v3) hown3
                have hbc3 := hbc2.keep hg3 (fun e => cx_ne hbc2 hS2.own e.symm)
                obtain ⟨o3, c3, rfl⟩ := (holds_of hown3).form
                clear hown3 hg3
                go_wp2_with fail
                go_meet
                case rel => exact ⟨G, [], _, _, _, rfl, hGi, Nat.zero_le _, hS3, hbc3, (fun e => by cases e), HAM, HN⟩
            case rest =>
              obtain ⟨P, gl, gv, oo, oc, rfl, hPl, hgll, hS4, hbz, HGV, HAP4, HN4⟩ := hcut
              generalize wc = wz at *
              have HN : ∀ gv' : Value, Hid ((P ++ [(gl ++ [d], gv')]).map (·.1) = grp ctx (l.take (i + 1))) := fun gv' => (by
                show _ = _
                rw [← HN4.out, List.map_append]
                rfl)
              clear HN4 hS1 hbc x0 x1 x2 x3 HAP HNR HNE HI HGT
              obtain ⟨qb, rfl⟩ := hown_at (by have h := hS4.own; rw [List.length_append, List.length_singleton] at h; exact h)
              have k1 : (0 : Int) ≤ (P.length : Int) := by omega
              have k2 : (P.length : Int) < (P.length : Int) + 1 := by omega
              go_upto_region 14 with fail
              have hGD := (hS4.drewN 1).alloc (chO d)
              have hda : ((wz.drewN 1).alloc (chO d)).heap.size = wz.heap.size + 1 := by simp
              have hsz := hS4.low.size
              have hlastown : ((wz.drewN 1).alloc (chO d)).ownsRow w.heap.size 73 4 gv gl.length (chcells gl) := hGD.ins (gl, gv) (by simp)
              obtain ⟨go, gc, hgv⟩ := (holds_of hlastown).form
              subst hgv
              obtain ⟨v3, u3, hr3, hown3, hg3, hb3⟩ := run_append_w ((wz.drewN 1).alloc (chO d)) 22 73 22 (.agg #[.int .i64 0, .int .i64 0, .int .i64 0, .int .i64 0]) 4 32 Tryd.underlying22 infoCh rfl (by decide) (by decide) w.heap.size _ _ _ hlastown _ 1 (chcells [d]) (ch_row (wz.drewN 1) d) rfl (chcells_one _) (by omega) (by rw [hda]; omega)
              rw [← chcells_append] at hown3
              obtain ⟨p3, q3, hv3⟩ := (holds_of hown3).form
              subst hv3
              have HA4 : Hid (Apt (P ++ [(gl ++ [d], Value.slice p3 (gl.length + 1) q3)])) := apt_last HAP4.out hGD hb3
              obtain ⟨qb', cap, hov, hcell3, hfr3, hG4, _⟩ := hGD.last (g' := gl ++ [d]) (apt_lst HAP4.out) hg3 (by rw [List.length_append]; exact hown3) hb3
              simp only [Value.slice.injEq, Option.some.injEq, Addr.mk.injEq] at hov
              obtain ⟨⟨rfl, _⟩, _, rfl⟩ := hov
              have hcellD : (wz.drewN 1).cell? ⟨qb, P.length, none⟩ = some (.slice go gl.length gc) := (by
                have h := hS4.own
                rw [List.length_append, List.length_singleton] at h
                have := h.cellAt P.length (by omega)
                rw [show (wz.drewN 1).cell? ⟨qb, P.length, none⟩ = wz.cell? ⟨qb, P.length, none⟩ from rfl, this]
                simp)
              have hcellA : ((wz.drewN 1).alloc (chO d)).cell? ⟨qb, P.length, none⟩ = some (.slice go gl.length gc) := (by
                have h := hGD.own
                rw [List.length_append, List.length_singleton] at h
                have := h.cellAt P.length (by omega)
                rw [this]
                simp)
              have hLD : Low w (wz.drewN 1) := Below.dN hS4.low 1
              have hLA : Low w ((wz.drewN 1).alloc (chO d)) := low_alloc _ hLD
              have hL3 : Low w u3 := Below.grown hLA hg3 (Below.size hLA) (fun j hj => owns_ge hlastown hj)
              have hL5 : Low w (u3.setCell ⟨qb, P.length, none⟩ (.slice p3 (gl.length + 1) q3)) := hG4.low
              have hSD : Low w (wz.drewN 1) ∧ Cx (wz.drewN 1) bc d := ⟨hLD, hbz⟩
              have hSA : Low w ((wz.drewN 1).alloc (chO d)) ∧ Cx ((wz.drewN 1).alloc (chO d)) bc d := ⟨hLA, Cx.low (u := wz.drewN 1) hbz ((Below.refl _ (wz.drewN 1)).alloc (Nat.le_refl _) _)⟩
              have hS3 : Low w u3 ∧ Cx u3 bc d := ⟨hL3, hSA.2.keep hg3 (fun e => HGV.out e.symm)⟩
              have hS5 : Low w (u3.setCell ⟨qb, P.length, none⟩ (.slice p3 (gl.length + 1) q3)) ∧ Cx (u3.setCell ⟨qb, P.length, none⟩ (.slice p3 (gl.length + 1) q3)) bc d := ⟨hL5, hS3.2.keep (grown_set u3 qb P.length _) (fun e => cx_ne hbz hS4.own e.symm)⟩
              obtain ⟨y0, y1, y2, y3⟩ := hS5.2.cells
              clear hown3 hg3 hb3 hlastown
              refine wp_region_noPanic ?_
              refine wp_region_held_drew (S := fun u => Low w u ∧ Cx u bc d) (by kernel_rfl) hSD (fun hHeld => ?_)
              refine go_take 0 55 _ (.pointer (some ⟨qb, P.length, none⟩)) rfl (by kernel_rfl) (by kernel_rfl) (by kernel_rfl) (by kernel_rfl) (fun _ _ _ h => h) (Or.inl ⟨by kernel_rfl, fun u hu => by kernel_rfl⟩) hHeld ?_
              simp only [Act.put, List.setIfInBounds_toArray, List.set_cons_zero, List.set_cons_succ]
              refine go_take 1 56 _ (.pointer (some ⟨qb, P.length, none⟩)) rfl (by kernel_rfl) (by kernel_rfl) (by kernel_rfl) (by kernel_rfl) (fun _ _ _ h => h) (Or.inl ⟨by kernel_rfl, fun u hu => by kernel_rfl⟩) hHeld ?_
              simp only [Act.put, List.setIfInBounds_toArray, List.set_cons_zero, List.set_cons_succ]
              refine go_take 2 57 _ (.pointer (some ⟨qb, P.length, none⟩)) rfl (by kernel_rfl) (by kernel_rfl) (by kernel_rfl) (by kernel_rfl) (fun _ _ _ h => h) (Or.inl ⟨by kernel_rfl, fun u hu => exec_nil (.tmp 56) (by kernel_rfl) (by kernel_rfl)⟩) hHeld ?_
              simp only [Act.put, List.setIfInBounds_toArray, List.set_cons_zero, List.set_cons_succ]
              refine go_take 4 59 _ (chV d) rfl (by kernel_rfl) (by kernel_rfl) (by kernel_rfl) (by kernel_rfl) (fun _ _ _ h => h) (Or.inl ⟨by kernel_rfl, fun u hu => load_chR hu.2.cells (.tmp 14) (by kernel_rfl) (by kernel_rfl)⟩) hHeld ?_
              simp only [Act.put, List.setIfInBounds_toArray, List.set_cons_zero, List.set_cons_succ]
              refine go_two 3 58 _ 5 60 _ rfl (by kernel_rfl) rfl (by kernel_rfl) (by kernel_rfl) (by kernel_rfl) (by kernel_rfl) (.slice go gl.length gc) (wz.drewN 1) (load_chs hcellD (.tmp 57) (by kernel_rfl) (by kernel_rfl)) hSD (.slice (some ⟨(wz.drewN 1).heap.size, 0, none⟩) 1 1) ((wz.drewN 1).alloc (chO d)) (by kernel_rfl) hSA ?_ ?_
              · simp only [Act.put, List.setIfInBounds_toArray, List.set_cons_zero, List.set_cons_succ]
                refine go_val 5 60 _ rfl (by kernel_rfl) (by kernel_rfl) (by kernel_rfl) (.slice (some ⟨(wz.drewN 1).heap.size, 0, none⟩) 1 1) ((wz.drewN 1).alloc (chO d)) (by kernel_rfl) (hSA) ?_
                simp only [Act.put, List.setIfInBounds_toArray, List.set_cons_zero, List.set_cons_succ]
                refine go_val 6 61 _ rfl (by kernel_rfl) (by kernel_rfl) (by kernel_rfl) (.slice p3 (gl.length + 1) q3) (u3) (exec_app (.tmp 58) (.tmp 60) (by kernel_rfl) (by kernel_rfl) (by kernel_rfl) hr3) (hS3) ?_
                simp only [Act.put, List.setIfInBounds_toArray, List.set_cons_zero, List.set_cons_succ]
                refine go_take 7 62 _ (.pointer (some ⟨qb, P.length, none⟩)) rfl (by kernel_rfl) (by kernel_rfl) (by kernel_rfl) (by kernel_rfl) (fun _ _ _ h => h) (Or.inl ⟨by kernel_rfl, fun u hu => exec_nil (.tmp 55) (by kernel_rfl) (by kernel_rfl)⟩) hS3 ?_
                simp only [Act.put, List.setIfInBounds_toArray, List.set_cons_zero, List.set_cons_succ]
                refine go_skip 8 _ rfl (by kernel_rfl) (by kernel_rfl) (by kernel_rfl) (u3.setCell ⟨qb, P.length, none⟩ (.slice p3 (gl.length + 1) q3)) (exec_storeG hfr3 hcell3 (.tmp 62) (.tmp 61) (by kernel_rfl) (by kernel_rfl) (by kernel_rfl)) (hS5) ?_
                refine wpAnyH_done (by kernel_rfl) ?_ _
                refine NoPanic.normal ?_
                go_wp2
                exact ⟨⟨i + 1, P ++ [(gl ++ [d], .slice p3 (gl.length + 1) q3)], _, by omega, by go_num, by go_num, ⟨_, _, by rw [List.length_append, List.length_singleton]⟩, by rw [List.length_append, List.length_singleton]; omega, hG4, HA4, HN _, HEN⟩, by simp [intOf]; omega⟩
              · simp only [Act.put, List.setIfInBounds_toArray, List.set_cons_zero, List.set_cons_succ]
                refine go_val 3 58 _ rfl (by kernel_rfl) (by kernel_rfl) (by kernel_rfl) (.slice go gl.length gc) ((wz.drewN 1).alloc (chO d)) (load_chs hcellA (.tmp 57) (by kernel_rfl) (by kernel_rfl)) (hSA) ?_
                simp only [Act.put, List.setIfInBounds_toArray, List.set_cons_zero, List.set_cons_succ]
                refine go_val 6 61 _ rfl (by kernel_rfl) (by kernel_rfl) (by kernel_rfl) (.slice p3 (gl.length + 1) q3) (u3) (exec_app (.tmp 58) (.tmp 60) (by kernel_rfl) (by kernel_rfl) (by kernel_rfl) hr3) (hS3) ?_
                simp only [Act.put, List.setIfInBounds_toArray, List.set_cons_zero, List.set_cons_succ]
                refine go_take 7 62 _ (.pointer (some ⟨qb, P.length, none⟩)) rfl (by kernel_rfl) (by kernel_rfl) (by kernel_rfl) (by kernel_rfl) (fun _ _ _ h => h) (Or.inl ⟨by kernel_rfl, fun u hu => exec_nil (.tmp 55) (by kernel_rfl) (by kernel_rfl)⟩) hS3 ?_
                simp only [Act.put, List.setIfInBounds_toArray, List.set_cons_zero, List.set_cons_succ]
                refine go_skip 8 _ rfl (by kernel_rfl) (by kernel_rfl) (by kernel_rfl) (u3.setCell ⟨qb, P.length, none⟩ (.slice p3 (gl.length + 1) q3)) (exec_storeG hfr3 hcell3 (.tmp 62) (.tmp 61) (by kernel_rfl) (by kernel_rfl) (by kernel_rfl)) (hS5) ?_
                refine wpAnyH_done (by kernel_rfl) ?_ _
                refine NoPanic.normal ?_
                go_wp2
                exact ⟨⟨i + 1, P ++ [(gl ++ [d], .slice p3 (gl.length + 1) q3)], _, by omega, by go_num, by go_num, ⟨_, _, by rw [List.length_append, List.length_singleton]⟩, by rw [List.length_append, List.length_singleton]; omega, hG4, HA4, HN _, HEN⟩, by simp [intOf]; omega⟩
          · have HIe : Hid (G.map (·.1) = R) := (by
              show _ = _
              rw [HI.out, List.take_of_length_le (by omega)]
              exact HR2.out)
            have hend : decide ((i : Int) < (l.length : Int)) = false := decide_eq_false (by omega)
            clear HI
            go_wp2
            go_ret2
            exact ⟨_, G, rfl, hS, HAP.out, HIe.out⟩
  · have hc1 : (ck != 0) = true := by simpa using hc0
    have HE : Hid (z = ck) := (by
      show _ = _
      rw [← HZ.out]
      unfold grpE
      rw [HCK.out]
      simp [hc0])
    have HRN : Hid (R = []) := (by
      show _ = _
      rw [← HR.out]
      unfold grpR
      rw [HZ.out, HE.out, if_neg (by exact hc0)])
    clear HZ HR HCK hc0
    go_wp2
    go_ret2
    rw [HE.out, HRN.out]
    exact ⟨_, [], rfl, ⟨hBW, hnil_row _ _ _ _, fun _ h => by cases h⟩, List.Pairwise.nil, rfl⟩
end Go.Proofs.YtgiojkhmkeocfaaDoor

/- A region that draws its order, in a round: ten operations that read, in whatever order, then the rest as the text has it. -/
namespace Go.Proofs.YtgiojkhmkeocfaaDoor
open Go.RowKit Go.Shelf
namespace R10

def one (c : Bool) : Nat := if c then 1 else 0
end R10
end Go.Proofs.YtgiojkhmkeocfaaDoor

/- What a script makes of a text: the code's Apply, walked. -/
namespace Go.Proofs.YtgiojkhmkeocfaaDoor
open Go.RowKit Go.Shelf
open R10
attribute [local go_sem] Oper.semAt_some


theorem cut_at (A : List (List UInt8)) (i n : Int) (j : Nat) (u : Value) (h : (scells (cut A i n))[j]? = some u) : (scells A)[i.toNat + j]? = some u ∧ j < n.toNat := by
  simp only [scells, cut, List.getElem?_map, List.getElem?_take, List.getElem?_drop] at h ⊢
  split at h
  · exact ⟨h, by assumption⟩
  · simp at h
theorem cut_length (A : List (List UInt8)) (i n : Int) (h0 : 0 ≤ i) (h1 : 0 ≤ n) (h2 : i + n ≤ A.length) : (cut A i n).length = n.toNat := by
  simp [cut]; omega
set_option maxRecDepth 10000 in
theorem run_cut (A : List (List UInt8)) (ao : Option Addr) (cap : Nat) (i n : Int) (h0 : 0 ≤ i) (h1 : 0 ≤ n) (h2 : i + n ≤ A.length) (w : World) (hA : HS w (.slice ao A.length cap) A) :
    ∃ vs, (∀ u : World, (Instr.slice 23 (.slice ao A.length cap) (some (.int .i64 i)) (some (.int .i64 (i + n))) none).run Tryd.prog u = .ok vs u) ∧ (∀ u : World, HS u (.slice ao A.length cap) A → HS u vs (cut A i n)) := by
  have hnc : A.length ≤ cap ∧ (ao = none → A = []) := by
    rcases hA with ⟨h, h3, _⟩ | ⟨ad, c, h, h3, _⟩
    · exact ⟨by omega, fun _ => List.eq_nil_of_length_eq_zero h3⟩
    · cases h
      exact ⟨h3, fun h => by cases h⟩
  refine ⟨.slice (if cap = i.toNat then ao else ao.map (·.add i.toNat)) n.toNat (cap - i.toNat), fun u => ?_, fun u hu => ?_⟩
  · rw [run_slice_lh (P := Tryd.prog) u 23 ao A.length cap (by kernel_rfl) .i64 .i64 i (i + n) h0 (by omega) (by omega)]
    have : (sizeOf (Tryd.prog.elem 23)).run Tryd.prog u = .ok 1 u := by kernel_rfl
    rw [this]
    simp only [Result.andThen, sliced, Nat.mul_one]
    congr 2
    omega
  · unfold HS
    rw [cut_length A i n h0 h1 h2]
    cases ao with
    | none =>
      have hA0 := hnc.2 rfl
      subst hA0
      have : i = 0 := by simp at h2; omega
      subst this
      have : n = 0 := by simp at h2; omega
      subst this
      refine .inl ⟨?_, rfl, by simp [cut, scells]⟩
      rcases hA with ⟨h, h3, _⟩ | ⟨ad, c, h, h3, _⟩
      · cases h; simp
      · cases h
    | some ad =>
      refine .inr ⟨if cap = i.toNat then ad else ad.add i.toNat, cap - i.toNat, by split <;> simp, by omega, fun j x hj => ?_⟩
      obtain ⟨h4, h5⟩ := cut_at A i n j x hj
      rcases hu with ⟨h, _⟩ | ⟨ad', c, h, h3, hc⟩
      · cases h
      · cases h
        have := hc _ _ h4
        rw [if_neg (by omega)]
        obtain ⟨b, off, rfl⟩ := addr_of (hc 0 _ (List.getElem?_eq_getElem (by rw [scells_length]; omega)))
        rw [add_none] at this
        rw [add_none, add_none, Nat.add_assoc]
        exact this

end Go.Proofs.YtgiojkhmkeocfaaDoor

/- SameStrings of the reference, walked at two slices that hold the same. -/
namespace Go.Proofs.YtgiojkhmkeocfaaDoor
open Go.RowKit

set_option maxHeartbeats 1000000 in
theorem SameS_any (va vb : Value) (l : List (List UInt8)) (w : World) (hlen : l.length ≤ 4398046511104) (ha : HS w va l) (hb : HS w vb l) :
    Calls Tryd.prog 10 #[va, vb] w fun e w' => e = .returned (.bool true) ∧ Below w.heap.size w w' := by
  obtain ⟨ao, ca, rfl⟩ := Holds.form ha
  obtain ⟨bo, cb, rfl⟩ := Holds.form hb
  go_enter Tryd.func10, Tryd.ntmps10
  go_wp2
  go_loopw [5] (fun i wr => ∃ k m : Nat, k ≤ l.length ∧ i = .int .i64 k ∧ wr = w.drewN m) (fun i _ => l.length - (intOf i).toNat)
  case atStart => exact ⟨0, 0, Nat.zero_le _, rfl, rfl⟩
  case round =>
    obtain ⟨k, m, hk, rfl, rfl⟩ := hrel
    by_cases hlt : k < l.length
    · obtain ⟨b1, o1, rfl, _, hc1⟩ := HS.at ha (by omega)
      obtain ⟨b2, o2, rfl, _, hc2⟩ := HS.at hb (by omega)
      have d1 := hc1 k hlt
      have d2 := hc2 k hlt
      clear hc1 hc2
      have i1 : 0 ≤ (k : Int) := by omega
      have i2 : (k : Int) < (l.length : Int) := by omega
      go_wp2_with fail
      go_quiet (fail)
      go_wp2
      go_roundw
      case rel => exact ⟨k + 1, _, by omega, by go_num, rfl⟩
      case measure => simp [intOf]; omega
    · go_wp2
      go_ret
      exact ⟨rfl, Below.dN (Below.refl _ w) _⟩

end Go.Proofs.YtgiojkhmkeocfaaDoor

/- What a script makes of a text: the reference's Apply, walked. -/
namespace Go.Proofs.YtgiojkhmkeocfaaDoor
open Go.RowKit
attribute [local simp] st_drew low_drew

theorem run_cut_to (A : List (List UInt8)) (ao : Option Addr) (cap : Nat) (i h : Int) (h0 : 0 ≤ i) (h1 : i ≤ h) (h2 : h ≤ A.length) (w : World) (hA : HS w (.slice ao A.length cap) A) :
    ∃ vo vc, (∀ u : World, (Instr.slice 23 (.slice ao A.length cap) (some (.int .i64 i)) (some (.int .i64 h)) none).run Tryd.prog u = .ok (.slice vo (cut A i (h - i)).length vc) u) ∧ (∀ u : World, HS u (.slice ao A.length cap) A → HS u (.slice vo (cut A i (h - i)).length vc) (cut A i (h - i))) := by
  obtain ⟨vs, h3, h4⟩ := run_cut A ao cap i (h - i) h0 (by omega) (by omega) w hA
  obtain ⟨vo, vc, rfl⟩ := Holds.form (h4 w hA)
  have e : i + (h - i) = h := by omega
  rw [e] at h3
  exact ⟨vo, vc, h3, h4⟩
end Go.Proofs.YtgiojkhmkeocfaaDoor
