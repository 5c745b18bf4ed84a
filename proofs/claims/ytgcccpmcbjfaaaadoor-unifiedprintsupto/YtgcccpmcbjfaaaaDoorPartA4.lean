/-
  Texts that belong together, joined: HuRow, HuRf1, HuRf2, HuRf3, PcReg, HuRf4, HuRf5, HuRf6.
-/
import Derived.Test.YtgcccpmcbjfaaaaDoorPartA3
import Derived.Test.YtgcccpmcbjfaaaaDoorPartA2
import Derived.Deep.CutRange
import Derived.Deep.DeepCutAuto

/- Lines with signs and hunks as cells: what slices of them hold; hunks in a box; append onto an owned row of hunks. -/
namespace Go.Proofs.YtgcccpmcbjfaaaaDoor
open Go.RowKit

def mkC (m : Mk) : List Value := [.int .u8 m.sg, .string ⟨m.tx.toArray⟩]
def mkcells (l : List Mk) : List Value := l.flatMap mkC
theorem infoMk : (Tryd.prog.info? 50).map (fun i => (i.zero, i.size, i.bytes)) = some (some (.agg #[.int .u8 0, .string ⟨#[]⟩]), 2, 24) := by kernel_rfl
theorem infoHk : (Tryd.prog.info? 44).map (fun i => (i.zero, i.size, i.bytes)) = some (some (.agg #[.int .i64 0, .int .i64 0, .int .i64 0, .int .i64 0, .slice none 0 0]), 5, 56) := by kernel_rfl
theorem mkcells_length (l : List Mk) : (mkcells l).length = l.length * 2 := by
  induction l with
  | nil => rfl
  | cons c l ih => simp only [mkcells, List.flatMap_cons, List.length_append, List.length_cons] at ih ⊢; rw [ih]; simp [mkC]; omega
theorem mkcells_append (a b : List Mk) : mkcells (a ++ b) = mkcells a ++ mkcells b := by simp [mkcells]
theorem mkcells_one (l : List Mk) : ∀ u ∈ mkcells l, u.oneCell' = true := by
  intro u hu
  simp only [mkcells, List.mem_flatMap, mkC] at hu
  obtain ⟨c, _, h⟩ := hu
  simp only [List.mem_cons, List.not_mem_nil, or_false] at h
  rcases h with rfl | rfl <;> rfl
theorem mkcells_at (l : List Mk) (k : Nat) (hk : k < l.length) : (mkcells l)[2 * k]? = some (.int .u8 l[k].sg) ∧ (mkcells l)[2 * k + 1]? = some (.string ⟨l[k].tx.toArray⟩) := by
  induction l generalizing k with
  | nil => simp at hk
  | cons c l ih =>
    cases k with
    | zero => simp [mkcells, mkC]
    | succ k =>
      have h := ih k (by simpa using hk)
      have e : ∀ i, (mkcells (c :: l))[2 * (k + 1) + i]? = (mkcells l)[2 * k + i]? := by
        intro i
        have : mkcells (c :: l) = mkC c ++ mkcells l := rfl
        rw [this, List.getElem?_append_right (by simp [mkC]; omega)]
        congr 1
        simp [mkC]; omega
      simp only [List.getElem_cons_succ]
      refine ⟨by rw [← (h).1]; exact e 0, by rw [← h.2]; exact e 1⟩
/-- a slice of lines with signs -/
def HMk (w : World) (v : Value) (l : List Mk) : Prop := Holds w v l.length (mkcells l)
theorem HMk.keep {w w' : World} {v : Value} {l : List Mk} (h : HMk w v l) {N : Nat} (hk : Below N w w') (hN : w.heap.size ≤ N) : HMk w' v l := Holds.keep h fun k hk' => hk.block k (by omega)
theorem HMk.at {w : World} {ao : Option Addr} {n c : Nat} {l : List Mk} (h : HMk w (.slice ao n c) l) (h0 : 0 < l.length) : ∃ b off, ao = some ⟨b, off, none⟩ ∧ b < w.heap.size ∧
    ∀ k (hk : k < l.length), w.cell? ⟨b, off + k * 2, none⟩ = some (.int .u8 l[k].sg) ∧ w.cell? ⟨b, off + k * 2 + 1, none⟩ = some (.string ⟨l[k].tx.toArray⟩) := by
  obtain ⟨b, off, c', hv, hb, hc⟩ := Holds.at h (by rw [mkcells_length]; omega)
  cases hv
  refine ⟨b, off, rfl, hb, fun k hk => ?_⟩
  obtain ⟨h0, h1⟩ := mkcells_at l k hk
  have hlen := mkcells_length l
  have e : k * 2 = 2 * k := by omega
  rw [e]
  refine ⟨?_, ?_⟩
  · have := hc (2 * k) (by omega)
    rw [← h0, this, List.getElem?_eq_getElem]
  · have := hc (2 * k + 1) (by omega)
    rw [← h1, Nat.add_assoc, this, List.getElem?_eq_getElem]
theorem Low.mk {W w : World} (h : Low W w) {b off n c : Nat} {l : List Mk} (hl : HMk W (.slice (some ⟨b, off, none⟩) n c) l) (k : Nat) (hk : k < l.length) {x : Mk} (hx : l[k] = x) : w.cell? ⟨b, off + k * 2, none⟩ = some (.int .u8 x.sg) ∧ w.cell? ⟨b, off + k * 2 + 1, none⟩ = some (.string ⟨x.tx.toArray⟩) := by
  obtain ⟨b', off', e, _, hc⟩ := HMk.at (HMk.keep hl h (Nat.le_refl _)) (by omega)
  cases e
  rw [← hx]
  exact hc k hk
/-- a hunk as a value, in a box -/
def hkV (h : Hk) (v : Value) : Value := .agg #[.int .i64 h.A, .int .i64 h.AN, .int .i64 h.B, .int .i64 h.BN, v]
def hkC (h : Hk) (v : Value) : List Value := [.int .i64 h.A, .int .i64 h.AN, .int .i64 h.B, .int .i64 h.BN, v]
def hkO (h : Hk) (v : Value) : Obj := .cells #[.int .i64 h.A, .int .i64 h.AN, .int .i64 h.B, .int .i64 h.BN, v] 44
def Hx (u : World) (b : Nat) (h : Hk) (v : Value) : Prop := u.heap[b]? = some (hkO h v)
section
variable {u u' : World} {b : Nat} {h : Hk} {v : Value}
theorem Hx.cells (q : Hx u b h v) : u.cell? ⟨b, 0, none⟩ = some (.int .i64 h.A) ∧ u.cell? ⟨b, 1, none⟩ = some (.int .i64 h.AN) ∧ u.cell? ⟨b, 2, none⟩ = some (.int .i64 h.B) ∧ u.cell? ⟨b, 3, none⟩ = some (.int .i64 h.BN) ∧ u.cell? ⟨b, 4, none⟩ = some v := by
  unfold Hx hkO at q
  refine ⟨?_, ?_, ?_, ?_, ?_⟩ <;> rw [Lib.cell_of_heap q] <;> rfl
theorem Hx.frozen (q : Hx u b h v) (j : Nat) : u.frozen? ⟨b, j, none⟩ = false := Lib.frozen_of_heap q j
theorem Hx.lt (q : Hx u b h v) : b < u.heap.size := (Array.getElem?_eq_some_iff.1 q).1
theorem Hx.low (q : Hx u b h v) (hg : Below u.heap.size u u') : Hx u' b h v := (hg.block b q.lt).trans q
theorem Hx.keep (q : Hx u b h v) {g : Option Nat} (hg : u.grownBy u' g) (hr : some b ≠ g) : Hx u' b h v := (hg.block b q.lt hr).trans q
theorem Hx.new (w : World) (h : Hk) (v : Value) : Hx (w.alloc (hkO h v)) w.heap.size h v := _root_.Go.heap_alloc_new w _
end
/-- hunks in a row: each with the slice of its lines -/
def hkcells : List (Hk × Value) → List Value
  | [] => []
  | (h, v) :: l => hkC h v ++ hkcells l
theorem hkcells_length (l : List (Hk × Value)) : (hkcells l).length = l.length * 5 := by
  induction l with
  | nil => rfl
  | cons c l ih =>
    obtain ⟨h, v⟩ := c
    simp only [hkcells, List.length_append, List.length_cons]
    rw [ih]
    simp [hkC]; omega
theorem hkcells_append (a b : List (Hk × Value)) : hkcells (a ++ b) = hkcells a ++ hkcells b := by
  induction a with
  | nil => rfl
  | cons c l ih =>
    obtain ⟨h, v⟩ := c
    simp only [List.cons_append, hkcells, ih, List.append_assoc]
theorem hkcells_at (l : List (Hk × Value)) (k : Nat) (hk : k < l.length) : (hkcells l)[5 * k]? = some (.int .i64 l[k].1.A) ∧ (hkcells l)[5 * k + 1]? = some (.int .i64 l[k].1.AN) ∧ (hkcells l)[5 * k + 2]? = some (.int .i64 l[k].1.B) ∧ (hkcells l)[5 * k + 3]? = some (.int .i64 l[k].1.BN) ∧ (hkcells l)[5 * k + 4]? = some l[k].2 := by
  induction l generalizing k with
  | nil => simp at hk
  | cons c l ih =>
    obtain ⟨x, y⟩ := c
    cases k with
    | zero => simp [hkcells, hkC]
    | succ k =>
      have h := ih k (by simpa using hk)
      have e : ∀ i, (hkcells ((x, y) :: l))[5 * (k + 1) + i]? = (hkcells l)[5 * k + i]? := by
        intro i
        have : hkcells ((x, y) :: l) = hkC x y ++ hkcells l := rfl
        rw [this, List.getElem?_append_right (by simp [hkC]; omega)]
        congr 1
        simp [hkC]; omega
      simp only [List.getElem_cons_succ]
      refine ⟨by rw [← (h).1]; exact e 0, by rw [← h.2.1]; exact e 1, by rw [← h.2.2.1]; exact e 2, by rw [← h.2.2.2.1]; exact e 3, by rw [← h.2.2.2.2]; exact e 4⟩
/-- a slice of hunks; p: the hunks, each with the slice of its lines -/
structure HHp (w : World) (v : Value) (p : List (Hk × Value)) : Prop where
  row : Holds w v p.length (hkcells p)
  ins : ∀ x ∈ p, HMk w x.2 x.1.ls
def HHk (w : World) (v : Value) (l : List Hk) : Prop := ∃ p : List (Hk × Value), p.map (·.1) = l ∧ HHp w v p
theorem HHp.keep {w w' : World} {v : Value} {p : List (Hk × Value)} (h : HHp w v p) {N : Nat} (hk : Below N w w') (hN : w.heap.size ≤ N) : HHp w' v p :=
  ⟨Holds.keep h.row fun k hk' => hk.block k (by omega), fun x hx => HMk.keep (h.ins x hx) hk hN⟩
theorem HHk.keep {w w' : World} {v : Value} {l : List Hk} (h : HHk w v l) {N : Nat} (hk : Below N w w') (hN : w.heap.size ≤ N) : HHk w' v l := by
  obtain ⟨p, hp, h⟩ := h
  exact ⟨p, hp, h.keep hk hN⟩
theorem HHp.at {w : World} {ao : Option Addr} {n c : Nat} {l : List (Hk × Value)} (h : HHp w (.slice ao n c) l) (h0 : 0 < l.length) : ∃ b off, ao = some ⟨b, off, none⟩ ∧ b < w.heap.size ∧
    ∀ k (hk : k < l.length), w.cell? ⟨b, off + k * 5, none⟩ = some (.int .i64 l[k].1.A) ∧ w.cell? ⟨b, off + k * 5 + 1, none⟩ = some (.int .i64 l[k].1.AN) ∧ w.cell? ⟨b, off + k * 5 + 2, none⟩ = some (.int .i64 l[k].1.B) ∧ w.cell? ⟨b, off + k * 5 + 3, none⟩ = some (.int .i64 l[k].1.BN) ∧ w.cell? ⟨b, off + k * 5 + 4, none⟩ = some l[k].2 := by
  obtain ⟨b, off, c', hv, hb, hc⟩ := Holds.at h.row (by rw [hkcells_length]; omega)
  cases hv
  refine ⟨b, off, rfl, hb, fun k hk => ?_⟩
  obtain ⟨h0, h1, h2, h3, h4⟩ := hkcells_at l k hk
  have hlen := hkcells_length l
  have e : k * 5 = 5 * k := by omega
  rw [e]
  refine ⟨?_, ?_, ?_, ?_, ?_⟩
  · have := hc (5 * k) (by omega)
    rw [← h0, this, List.getElem?_eq_getElem]
  · have := hc (5 * k + 1) (by omega)
    rw [← h1, Nat.add_assoc, this, List.getElem?_eq_getElem]
  · have := hc (5 * k + 2) (by omega)
    rw [← h2, Nat.add_assoc, this, List.getElem?_eq_getElem]
  · have := hc (5 * k + 3) (by omega)
    rw [← h3, Nat.add_assoc, this, List.getElem?_eq_getElem]
  · have := hc (5 * k + 4) (by omega)
    rw [← h4, Nat.add_assoc, this, List.getElem?_eq_getElem]
theorem HMk.form {w : World} {v : Value} {l : List Mk} (h : HMk w v l) : ∃ ao c, v = .slice ao l.length c := Holds.form h
theorem hkcells_one {w : World} (l : List (Hk × Value)) (h : ∀ x ∈ l, HMk w x.2 x.1.ls) : ∀ u ∈ hkcells l, u.oneCell' = true := by
  induction l with
  | nil => simp [hkcells]
  | cons c l ih =>
    obtain ⟨x, y⟩ := c
    intro u hu
    simp only [hkcells, hkC, List.mem_append, List.mem_cons, List.not_mem_nil, or_false] at hu
    rcases hu with (rfl | rfl | rfl | rfl | rfl) | hu
    · rfl
    · rfl
    · rfl
    · rfl
    · obtain ⟨ao, c, hv⟩ := (h (x, u) (by simp)).form
      dsimp only at hv
      rw [hv]
      rfl
    · exact ih (fun x hx => h x (by simp [hx])) u hu

theorem run_append_w (w : World) (T E ty : TypeId) (z : Value) (size bytes : Nat) (hT : Tryd.prog.underlying T = some (.slice E)) (hinfo : (Tryd.prog.info? E).map (fun i => (i.zero, i.size, i.bytes)) = some (some z, size, bytes)) (hz1 : z.cells.size = size) (hsz : 0 < size) (hby : bytes ≤ 64)
    (base : Nat) (v : Value) (k : Nat) (xs : List Value) (hown : w.ownsRow base E size v k xs) (vx : Value) (m : Nat) (news : List Value) (hh : Holds w vx m news) (hl : news.length = m * size)
    (h1 : ∀ u ∈ news, u.oneCell' = true) (hk : k + m ≤ 2199023255552) (hbase : base ≤ w.heap.size) :
    ∃ v' w', (Builtin.append_ #[T, T] ty #[v, vx]).run Tryd.prog w = .ok v' w' ∧ w'.ownsRow base E size v' (k + m) (xs ++ news) ∧ w.grownBy w' v.ownBlock ∧ (v'.ownBlock = v.ownBlock ∨ v'.ownBlock = some w.heap.size) := by
  obtain ⟨i0, hi0, hz0, hzs, hz2⟩ := info_parts hinfo
  rcases hh with ⟨rfl, rfl, rfl⟩ | ⟨ad, c, rfl, _, hc⟩
  · exact ⟨v, w, run_append_owned_none (P := Tryd.prog) (w := w) base T ty E i0 size hT hi0 v k xs hown, by simpa using hown, World.grownBy.refl _ _, .inl rfl⟩
  · obtain ⟨v', w', hr, h2, h3, _, h5⟩ := run_append_own_at (P := Tryd.prog) w base T ty E i0 z size bytes hT hi0 hz0 hzs hz2 hz1 hsz v k xs hown ad m c news hl hc h1 (by unfold maxLen; omega) (by
      have : (k + m) * bytes ≤ (k + m) * 64 := Nat.mul_le_mul_left _ hby
      omega) hbase
    exact ⟨v', w', hr, h2, h3, h5⟩
theorem wpList_append_w {ops : Array Oper} {rest : List Oper} {o : Oper} {a : Act} {Q : Exit → Act → World → Prop} (w : World) (hw : Region.wanted o (yielded ops a.tmps) = true) (s x : Operand) (T E : TypeId) (z : Value) (size bytes : Nat)
    (ho : o.op = .call { callee := .builtin .append, args := #[s, x], argTypes := #[T, T] }) (hT : Tryd.prog.underlying T = some (.slice E)) (hinfo : (Tryd.prog.info? E).map (fun i => (i.zero, i.size, i.bytes)) = some (some z, size, bytes)) (hz1 : z.cells.size = size) (hsz : 0 < size) (hby : bytes ≤ 64)
    (base : Nat) (v : Value) (k : Nat) (xs : List Value) (hs : a.eval s = v) (hown : w.ownsRow base E size v k xs) (vx : Value) (m : Nat) (news : List Value) (hx : a.eval x = vx) (hh : Holds w vx m news) (hl : news.length = m * size)
    (h1 : ∀ u ∈ news, u.oneCell' = true) (hk : k + m ≤ 2199023255552) (hbase : base ≤ w.heap.size)
    (h : ∀ v' w', w'.ownsRow base E size v' (k + m) (xs ++ news) → w.grownBy w' v.ownBlock → (v'.ownBlock = v.ownBlock ∨ v'.ownBlock = some w.heap.size) → wpList Tryd.prog ops Q rest (a.put o.dst v') w') : wpList Tryd.prog ops Q (o :: rest) a w := by
  refine wpList_step fun K hK => ?_
  rw [if_pos hw]
  obtain ⟨v', w', hr, h2, h3, h4⟩ := run_append_w w T E o.type z size bytes hT hinfo hz1 hsz hby base v k xs hown vx m news hh hl h1 hk hbase
  unfold Oper.wp
  simp [execOp, ho, resolve, invoke, builtin, hs, hx, hr, Result.andThen]
  exact hK _ _ (h v' w' h2 h3 h4)
theorem hnil_row (w : World) (base : Nat) (e : TypeId) (s : Nat) : w.ownsRow base e s (.slice none 0 0) 0 [] := ⟨by simp, .inl ⟨rfl, rfl⟩⟩
end Go.Proofs.YtgcccpmcbjfaaaaDoor

/- The reference's small functions of layer 11, walked: numbers, places, lines, the lines of a side. -/
namespace Go.Proofs.YtgcccpmcbjfaaaaDoor
open Go.RowKit

theorem rnumber_any (z : Int) (w : World) : Calls Tryd.prog 55 #[.int .i64 z] w fun e w' => e = .returned (.bool (nat31 z)) ∧ w' = w := by
  unfold nat31
  go_enter Tryd.func55, Tryd.ntmps55
  by_cases h0 : 0 ≤ z
  · rw [decide_eq_true h0]
    go_wp2
    go_ret
    exact ⟨by simp, rfl⟩
  · have e0 : decide (0 ≤ z) = false := decide_eq_false h0
    rw [e0]
    go_wp2
    go_ret
    exact ⟨rfl, rfl⟩
set_option maxHeartbeats 2000000 in
theorem rpick_f (h : Hk) (v : Value) (no : Int) (w : World) (hv : HMk w v h.ls) (hl : h.ls.length ≤ 1099511627776) (R : List (List UInt8)) (HR : Hid (pkL no h.ls = R)) : Calls Tryd.prog 65 #[hkV h v, .int .u8 no] w fun e w' => ∃ v', e = .returned v' ∧ HS w' v' R ∧ Below w.heap.size w w' := by
  obtain ⟨A, AN, B, BN, ls⟩ := h
  dsimp only at hv hl HR
  obtain ⟨lo, lc, rfl⟩ := HMk.form hv
  have hx := Hx.new w ⟨A, AN, B, BN, ls⟩ (.slice lo ls.length lc)
  have hBl : Below w.heap.size w (w.alloc (hkO ⟨A, AN, B, BN, ls⟩ (.slice lo ls.length lc))) := (Below.refl _ w).alloc (Nat.le_refl _) _
  have hv1 := HMk.keep hv hBl (Nat.le_refl _)
  have hsz : (w.alloc (hkO ⟨A, AN, B, BN, ls⟩ (.slice lo ls.length lc))).heap.size = w.heap.size + 1 := by simp
  unfold hkV
  dsimp only
  go_enter Tryd.func65, Tryd.ntmps65
  go_wp2
  have hW : w.alloc (hkO ⟨A, AN, B, BN, ls⟩ (.slice lo ls.length lc)) = w.alloc (Obj.cells #[Value.int IntKind.i64 A, Value.int IntKind.i64 AN, Value.int IntKind.i64 B, Value.int IntKind.i64 BN, .slice lo ls.length lc] 44) := rfl
  rw [← hW]
  clear hW hv
  have HSZ : Hid ((w.alloc (hkO ⟨A, AN, B, BN, ls⟩ (.slice lo ls.length lc))).heap.size = w.heap.size + 1) := hsz
  clear hsz
  generalize w.alloc (hkO ⟨A, AN, B, BN, ls⟩ (.slice lo ls.length lc)) = W at *
  go_loopw [5, 6] (fun ov iv wr => ∃ (k : Nat) (out : List (List UInt8)), k ≤ ls.length ∧ out.length ≤ k ∧ iv = .int .i64 (k : Int) ∧ (∃ oo oc, ov = .slice oo out.length oc) ∧ St W 9 1 ov out.length (scells out) wr ∧ Hid (out ++ pkL no (ls.drop k) = R)) (fun _ iv _ => ls.length - (intOf iv).toNat)
  case atStart => exact ⟨0, [], Nat.zero_le _, Nat.le_refl _, by go_num, ⟨_, _, rfl⟩, ⟨hnil_row _ _ _ _, Below.refl _ _⟩, HR⟩
  case round =>
    obtain ⟨k, out, hk, hok, rfl, ⟨oo, oc, rfl⟩, hS, HI⟩ := hrel
    obtain ⟨_, _, _, _, d4⟩ := (hx.low hS.low).cells
    by_cases hlt : k < ls.length
    · obtain ⟨b, off, rfl, hb, _⟩ := HMk.at hv1 (by omega)
      obtain ⟨m, hm⟩ : ∃ m, ls[k] = m := ⟨_, rfl⟩
      obtain ⟨c0, c1⟩ := Low.mk hS.low hv1 k hlt hm
      have HI2 : Hid (out ++ (if m.sg ≠ no ∧ okS m.sg = true then m.tx :: pkL no (ls.drop (k + 1)) else pkL no (ls.drop (k + 1))) = R) := (by
        show _ = _
        rw [← HI.out, List.drop_eq_getElem_cons hlt, hm]
        rfl)
      obtain ⟨sg, tx⟩ := m
      dsimp only at c0 c1 HI2
      clear HI hm HR
      have i1 : 0 ≤ (k : Int) := by omega
      have i2 : (k : Int) < (ls.length : Int) := by omega
      have hsS := hS.low.size
      by_cases h0 : sg = no
      · subst h0
        have HI3 : Hid (out ++ pkL sg (ls.drop (k + 1)) = R) := (by
          have h := HI2.out
          rw [if_neg (by exact fun h => h.1 rfl)] at h
          exact h)
        clear HI2
        go_wp2
        exact ⟨⟨k + 1, out, by omega, by omega, by go_num, ⟨_, _, rfl⟩, hS, HI3⟩, by simp [intOf]; omega⟩
      · have e0 : (sg == no) = false := by simpa using h0
        by_cases h1 : sg = 32
        · subst h1
          have HI3 : Hid (out ++ [tx] ++ pkL no (ls.drop (k + 1)) = R) := (by
            have h := HI2.out
            rw [if_pos ⟨h0, by decide⟩] at h
            show _ = _
            rw [← h]
            simp)
          clear HI2
          go_wp2_with (at_builtin; refine wpList_append_h _ (by kernel_rfl) (.tmp 36) (.tmp 43) 60 9 (.string ⟨#[]⟩) 1 16 rfl Tryd.underlying60 infoStr rfl (by decide) (by decide) W.heap.size _ _ _ rfl (hS.own.alloc _) _ 1 (scells [tx]) rfl (new_holds _ _ _ _ _ (by decide)) rfl (scells_one _) (by omega) (by simp; omega) ?_)
          intro v2 w2 hown2 hgrow2
          have hB2 : Below W.heap.size W w2 := (hS.low.alloc hS.low.size _).grown hgrow2 (by simp; omega) (fun _ hj => owns_ge hS.own hj)
          rw [← scells_append] at hown2
          obtain ⟨oo2, oc2, rfl⟩ := (holds_of hown2).form
          clear hgrow2
          go_wp2
          exact ⟨⟨k + 1, out ++ [tx], by omega, by simp; omega, by go_num, ⟨_, _, by rw [List.length_append]; rfl⟩, ⟨by rw [List.length_append]; exact hown2, hB2⟩, HI3⟩, by simp [intOf]; omega⟩
        · have e1 : (sg == 32) = false := by simpa using h1
          by_cases h2 : sg = 45
          · subst h2
            have HI3 : Hid (out ++ [tx] ++ pkL no (ls.drop (k + 1)) = R) := (by
              have h := HI2.out
              rw [if_pos ⟨h0, by decide⟩] at h
              show _ = _
              rw [← h]
              simp)
            clear HI2
            go_wp2_with (at_builtin; refine wpList_append_h _ (by kernel_rfl) (.tmp 36) (.tmp 43) 60 9 (.string ⟨#[]⟩) 1 16 rfl Tryd.underlying60 infoStr rfl (by decide) (by decide) W.heap.size _ _ _ rfl (hS.own.alloc _) _ 1 (scells [tx]) rfl (new_holds _ _ _ _ _ (by decide)) rfl (scells_one _) (by omega) (by simp; omega) ?_)
            intro v2 w2 hown2 hgrow2
            have hB2 : Below W.heap.size W w2 := (hS.low.alloc hS.low.size _).grown hgrow2 (by simp; omega) (fun _ hj => owns_ge hS.own hj)
            rw [← scells_append] at hown2
            obtain ⟨oo2, oc2, rfl⟩ := (holds_of hown2).form
            clear hgrow2
            go_wp2
            exact ⟨⟨k + 1, out ++ [tx], by omega, by simp; omega, by go_num, ⟨_, _, by rw [List.length_append]; rfl⟩, ⟨by rw [List.length_append]; exact hown2, hB2⟩, HI3⟩, by simp [intOf]; omega⟩
          · have e2 : (sg == 45) = false := by simpa using h2
            by_cases h3 : sg = 43
            · subst h3
              have HI3 : Hid (out ++ [tx] ++ pkL no (ls.drop (k + 1)) = R) := (by
                have h := HI2.out
                rw [if_pos ⟨h0, by decide⟩] at h
                show _ = _
                rw [← h]
                simp)
              clear HI2
              go_wp2_with (at_builtin; refine wpList_append_h _ (by kernel_rfl) (.tmp 36) (.tmp 43) 60 9 (.string ⟨#[]⟩) 1 16 rfl Tryd.underlying60 infoStr rfl (by decide) (by decide) W.heap.size _ _ _ rfl (hS.own.alloc _) _ 1 (scells [tx]) rfl (new_holds _ _ _ _ _ (by decide)) rfl (scells_one _) (by omega) (by simp; omega) ?_)
              intro v2 w2 hown2 hgrow2
              have hB2 : Below W.heap.size W w2 := (hS.low.alloc hS.low.size _).grown hgrow2 (by simp; omega) (fun _ hj => owns_ge hS.own hj)
              rw [← scells_append] at hown2
              obtain ⟨oo2, oc2, rfl⟩ := (holds_of hown2).form
              clear hgrow2
              go_wp2
              exact ⟨⟨k + 1, out ++ [tx], by omega, by simp; omega, by go_num, ⟨_, _, by rw [List.length_append]; rfl⟩, ⟨by rw [List.length_append]; exact hown2, hB2⟩, HI3⟩, by simp [intOf]; omega⟩
            · have e3 : (sg == 43) = false := by simpa using h3
              have HI3 : Hid (out ++ pkL no (ls.drop (k + 1)) = R) := (by
                have h := HI2.out
                rw [if_neg (by simp [okS, h1, h2, h3])] at h
                exact h)
              clear HI2
              go_wp2
              exact ⟨⟨k + 1, out, by omega, by omega, by go_num, ⟨_, _, rfl⟩, hS, HI3⟩, by simp [intOf]; omega⟩
    · have HI3 : Hid (out = R) := (by
        have h := HI.out
        rw [List.drop_of_length_le (by omega)] at h
        show out = R
        simpa [pkL] using h)
      clear HI
      have hend : decide ((k : Int) < (ls.length : Int)) = false := decide_eq_false (by omega)
      go_wp2
      go_ret
      refine ⟨_, rfl, ?_, hBl.trans (hS.low.mono (by have := HSZ.out; omega))⟩
      rw [← HI3.out]
      exact holds_of hS.own
theorem rOld_f (h : Hk) (v : Value) (w : World) (hv : HMk w v h.ls) (hl : h.ls.length ≤ 1099511627776) (R : List (List UInt8)) (HR : Hid (oldL h = R)) : Calls Tryd.prog 57 #[hkV h v] w fun e w' => ∃ v', e = .returned v' ∧ HS w' v' R ∧ Below w.heap.size w w' := by
  have hBl : Below w.heap.size w (w.alloc (hkO h v)) := (Below.refl _ w).alloc (Nat.le_refl _) _
  have hv1 := HMk.keep hv hBl (Nat.le_refl _)
  obtain ⟨c0, c1, c2, c3, c4⟩ := (Hx.new w h v).cells
  unfold hkO at c0 c1 c2 c3 c4 hBl hv1
  obtain ⟨lo, lc, rfl⟩ := HMk.form hv
  have e : hkV h (.slice lo h.ls.length lc) = .agg #[.int .i64 h.A, .int .i64 h.AN, .int .i64 h.B, .int .i64 h.BN, .slice lo h.ls.length lc] := rfl
  rw [e]
  go_enter Tryd.func57, Tryd.ntmps57
  go_wp2_with fail
  refine (rpick_f h _ 43 _ hv1 hl R HR).mono ?_
  rintro e w1 ⟨v1, rfl, hv1, hB1⟩
  obtain ⟨vo, vc, rfl⟩ := Holds.form hv1
  go_wp2
  go_ret
  exact ⟨_, rfl, hv1, hBl.trans (hB1.mono hBl.size)⟩
theorem rNew_f (h : Hk) (v : Value) (w : World) (hv : HMk w v h.ls) (hl : h.ls.length ≤ 1099511627776) (R : List (List UInt8)) (HR : Hid (newL h = R)) : Calls Tryd.prog 58 #[hkV h v] w fun e w' => ∃ v', e = .returned v' ∧ HS w' v' R ∧ Below w.heap.size w w' := by
  have hBl : Below w.heap.size w (w.alloc (hkO h v)) := (Below.refl _ w).alloc (Nat.le_refl _) _
  have hv1 := HMk.keep hv hBl (Nat.le_refl _)
  obtain ⟨c0, c1, c2, c3, c4⟩ := (Hx.new w h v).cells
  unfold hkO at c0 c1 c2 c3 c4 hBl hv1
  obtain ⟨lo, lc, rfl⟩ := HMk.form hv
  have e : hkV h (.slice lo h.ls.length lc) = .agg #[.int .i64 h.A, .int .i64 h.AN, .int .i64 h.B, .int .i64 h.BN, .slice lo h.ls.length lc] := rfl
  rw [e]
  go_enter Tryd.func58, Tryd.ntmps58
  go_wp2_with fail
  refine (rpick_f h _ 45 _ hv1 hl R HR).mono ?_
  rintro e w1 ⟨v1, rfl, hv1, hB1⟩
  obtain ⟨vo, vc, rfl⟩ := Holds.form hv1
  go_wp2
  go_ret
  exact ⟨_, rfl, hv1, hBl.trans (hB1.mono hBl.size)⟩

/-- a line's bytes, one by one -/
theorem lin_at {s : List UInt8} (hs : s ≠ []) : linB s = true ↔ ∀ (j : Nat) (hj : j + 1 < s.length), s[j] ≠ 10 := by
  unfold linB
  have e1 : s.isEmpty = false := by cases s with | nil => exact absurd rfl hs | cons => rfl
  rw [e1]
  simp only [Bool.not_false, Bool.true_and, List.all_eq_true]
  constructor
  · intro h j hj
    have := h s[j] (by
      rw [List.mem_iff_getElem]
      exact ⟨j, by simp; omega, by simp⟩)
    simpa using this
  · intro h c hc
    rw [List.mem_iff_getElem] at hc
    obtain ⟨j, hj, rfl⟩ := hc
    simp at hj
    have := h j (by omega)
    simpa using this
end Go.Proofs.YtgcccpmcbjfaaaaDoor

/- The reference's line, last of layer 11, walked. -/
namespace Go.Proofs.YtgcccpmcbjfaaaaDoor
open Go.RowKit

theorem bat (l : List UInt8) (k : Nat) (h : k < (⟨l.toArray⟩ : ByteArray).size) : (⟨l.toArray⟩ : ByteArray)[k]'h = l[k]'(h) := rfl
attribute [local go_sem] bat ByteArray.extract_mk
theorem is_feed {x : UInt8} (h : x = 10) : ((x.toNat : Int) == 10) = true := by subst h; rfl
theorem no_feed {x : UInt8} (h : x ≠ 10) : ((x.toNat : Int) == 10) = false := by
  have : x.toNat ≠ 10 := fun e => h (UInt8.toNat_inj.1 e)
  rw [beq_eq_false_iff_ne]; omega
theorem idx_s (L : List UInt8) (i : Int) (k : Nat) (hk : k < L.length) (hi : i = k) (w : World) :
    (Instr.index 9 (.string ⟨L.toArray⟩) (.int .i64 i)).run Tryd.prog w = .ok (.int .u8 (L[k].toNat : Int)) w := by
  subst hi
  rw [run_index_string w 9 ⟨L.toArray⟩ .i64 (k : Int) Tryd.underlying9]
  have hs : (⟨L.toArray⟩ : ByteArray).size = L.length := rfl
  rw [dif_pos ⟨by omega, by rw [hs]; omega⟩]
  rfl
theorem wrap_s {n : Int} (h0 : -9223372036854775808 ≤ n) (h1 : n ≤ 9223372036854775807) : IntKind.i64.wrap n = n := by
  simp [IntKind.wrap, IntKind.bits, IntKind.signed]
  split <;> omega
theorem fd_last {s : List UInt8} (h : 0 < s.length) : fdB s = (s[s.length - 1] == 10) := by
  unfold fdB
  rw [List.getLast?_eq_getElem?, List.getElem?_eq_getElem (by omega)]
  rfl

set_option maxHeartbeats 2000000 in
theorem rline_f (s : List UInt8) (w : World) (hl : s.length ≤ 1099511627776) (p q : Bool) (HP : Hid (linB s = p)) (HQ : Hid ((linB s && fdB s) = q)) : Calls Tryd.prog 63 #[.string ⟨s.toArray⟩] w fun e w' => e = .returned (.tuple #[.bool p, .bool q]) ∧ ∃ n, w' = w.drewN n := by
  by_cases h0 : s = []
  · subst h0
    obtain rfl : p = false := by rw [← HP.out]; rfl
    obtain rfl : q = false := by rw [← HQ.out]; rfl
    clear HP HQ
    go_enter Tryd.func63, Tryd.ntmps63
    go_wp2
    go_ret2
    exact ⟨rfl, 0, rfl⟩
  · have h1 : 0 < s.length := by
      cases s with
      | nil => exact absurd rfl h0
      | cons => simp
    have hz : decide ((s.length : Int) = 0) = false := decide_eq_false (by omega)
    have hz2 : ((s.length : Int) == 0) = false := by rw [beq_eq_false_iff_ne]; omega
    have H0 : Hid (s ≠ []) := h0
    clear h0
    go_enter Tryd.func63, Tryd.ntmps63
    go_wp2
    go_loopw [4] (fun iv wr => ∃ k : Nat, k + 1 ≤ s.length ∧ iv = .int .i64 (k : Int) ∧ wr = w ∧ Hid (∀ (j : Nat) (hj : j < s.length), j < k → s[j] ≠ 10)) (fun iv _ => s.length - (intOf iv).toNat)
    case atStart => exact ⟨0, by omega, by go_num, rfl, fun j _ h => by omega⟩
    case round =>
      obtain ⟨k, hk, rfl, rfl, HK⟩ := hrel
      by_cases hlt : k + 1 < s.length
      · have j1 : (k : Int) < (s.length : Int) - 1 := by omega
        by_cases h10 : s[k] = 10
        · have hb := is_feed h10
          have hlin : linB s = false := by
            cases hq : linB s with
            | false => rfl
            | true => exact absurd h10 ((lin_at H0.out).1 hq k hlt)
          obtain rfl : p = false := by rw [← HP.out]; exact hlin
          obtain rfl : q = false := by rw [← HQ.out, hlin]; rfl
          clear h10 hlin HP HQ
          go_wp2
          go_ret2
          exact ⟨rfl, 0, rfl⟩
        · have hb := no_feed h10
          have HK2 : Hid (∀ (j : Nat) (hj : j < s.length), j < k + 1 → s[j] ≠ 10) := (fun j hj h => by
            by_cases e : j = k
            · subst e; exact h10
            · exact HK.out j hj (by omega))
          clear h10
          go_wp2
          exact ⟨⟨k + 1, by omega, by go_num, trivial, HK2⟩, by simp [intOf]; omega⟩
      · have j1 : ¬ (k : Int) < (s.length : Int) - 1 := by omega
        have j2 : decide ((k : Int) < (s.length : Int) - 1) = false := decide_eq_false j1
        have hlin : linB s = true := (lin_at H0.out).2 fun j hj => HK.out j (by omega) (by omega)
        obtain rfl : p = true := by rw [← HP.out]; exact hlin
        have hq2 : q = (s[s.length - 1] == 10) := by rw [← HQ.out, hlin, fd_last h1]; rfl
        have i1 : (0 : Int) ≤ (s.length : Int) - 1 := by omega
        have i2 : (s.length : Int) - 1 < (s.length : Int) := by omega
        have i3 : IntKind.i64.wrap ((s.length : Int) - 1) = (s.length : Int) - 1 := wrap_s (by omega) (by omega)
        have i4 := idx_s s ((s.length : Int) - 1) (s.length - 1) (by omega) (by omega)
        clear HP HQ hlin HK
        by_cases h10 : s[s.length - 1] = 10
        · have hb := is_feed h10
          obtain rfl : q = true := by rw [hq2, h10]; rfl
          clear hq2 h10
          go_wp2_with fail
          go_quiet (fail)
          go_wp2
          go_ret2
          exact ⟨rfl, _, rfl⟩
        · have hb := no_feed h10
          obtain rfl : q = false := by rw [hq2]; simpa using h10
          clear hq2 h10
          go_wp2_with fail
          go_quiet (fail)
          go_wp2
          go_ret2
          exact ⟨rfl, _, rfl⟩

set_option maxHeartbeats 2000000 in
theorem rlast_f (h : Hk) (v : Value) (at0 : Nat) (sg : Int) (w : World) (hv : HMk w v h.ls) (hl : h.ls.length ≤ 1099511627776) (hat : at0 ≤ h.ls.length) (r : Bool) (HR : Hid (lstB sg (h.ls.drop (at0 + 1)) = r)) : Calls Tryd.prog 64 #[hkV h v, .int .i64 (at0 : Int), .int .u8 sg] w fun e w' => e = .returned (.bool r) ∧ Below w.heap.size w w' := by
  obtain ⟨A, AN, B, BN, ls⟩ := h
  dsimp only at hv hl HR hat
  obtain ⟨lo, lc, rfl⟩ := HMk.form hv
  have hx := Hx.new w ⟨A, AN, B, BN, ls⟩ (.slice lo ls.length lc)
  have hBl : Below w.heap.size w (w.alloc (hkO ⟨A, AN, B, BN, ls⟩ (.slice lo ls.length lc))) := (Below.refl _ w).alloc (Nat.le_refl _) _
  have hv1 := HMk.keep hv hBl (Nat.le_refl _)
  unfold hkV
  dsimp only
  go_enter Tryd.func64, Tryd.ntmps64
  go_wp2
  have hW : w.alloc (hkO ⟨A, AN, B, BN, ls⟩ (.slice lo ls.length lc)) = w.alloc (Obj.cells #[Value.int IntKind.i64 A, Value.int IntKind.i64 AN, Value.int IntKind.i64 B, Value.int IntKind.i64 BN, .slice lo ls.length lc] 44) := rfl
  rw [← hW]
  clear hW hv
  generalize w.alloc (hkO ⟨A, AN, B, BN, ls⟩ (.slice lo ls.length lc)) = W at *
  go_loopw [7] (fun iv wr => ∃ (k : Nat), k ≤ ls.length + 1 ∧ iv = .int .i64 (k : Int) ∧ wr = W ∧ Hid (lstB sg (ls.drop k) = r)) (fun iv _ => ls.length + 1 - (intOf iv).toNat)
  case atStart => exact ⟨at0 + 1, by omega, by go_num, rfl, HR⟩
  case round =>
    obtain ⟨k, hk, rfl, rfl, HI⟩ := hrel
    obtain ⟨_, _, _, _, d4⟩ := hx.cells
    by_cases hlt : k < ls.length
    · obtain ⟨b, off, rfl, hb, hc⟩ := HMk.at hv1 (by omega)
      obtain ⟨c0, c1⟩ := hc k hlt
      obtain ⟨m, hm⟩ : ∃ m, ls[k] = m := ⟨_, rfl⟩
      rw [hm] at c0 c1
      have HI2 : Hid (((decide (m.sg ≠ sg) && decide (m.sg ≠ 32)) && lstB sg (ls.drop (k + 1))) = r) := (by
        show _ = _
        rw [← HI.out, List.drop_eq_getElem_cons hlt, hm]
        rfl)
      obtain ⟨s, tx⟩ := m
      dsimp only at c0 c1 HI2
      clear HI hm HR hc c1
      have i1 : 0 ≤ (k : Int) := by omega
      have i2 : (k : Int) < (ls.length : Int) := by omega
      by_cases h0 : s = sg
      · subst h0
        obtain rfl : r = false := by rw [← HI2.out]; simp
        clear HI2
        go_wp2
        go_ret
        exact ⟨rfl, hBl⟩
      · have e0 : (s == sg) = false := by simpa using h0
        by_cases h1 : s = 32
        · subst h1
          obtain rfl : r = false := by rw [← HI2.out]; simp
          clear HI2
          go_wp2
          go_ret
          exact ⟨rfl, hBl⟩
        · have e1 : (s == 32) = false := by simpa using h1
          have HI3 : Hid (lstB sg (ls.drop (k + 1)) = r) := (by
            show _ = _
            rw [← HI2.out]
            simp [h0, h1])
          clear HI2
          go_wp2
          exact ⟨⟨k + 1, by omega, by go_num, trivial, HI3⟩, by simp [intOf]; omega⟩
    · obtain rfl : r = true := by
        rw [← HI.out, List.drop_of_length_le (by omega)]
        rfl
      have hend : decide ((k : Int) < (ls.length : Int)) = false := decide_eq_false (by omega)
      clear HI
      go_wp2
      go_ret
      exact ⟨rfl, hBl⟩
end Go.Proofs.YtgcccpmcbjfaaaaDoor

/- The reference's fields of layer 11, walked. -/
namespace Go.Proofs.YtgcccpmcbjfaaaaDoor
open Go.RowKit

/-- a line in a box -/
def mkO (m : Mk) : Obj := .cells #[.int .u8 m.sg, .string ⟨m.tx.toArray⟩] 50
def Mx (u : World) (b : Nat) (m : Mk) : Prop := u.heap[b]? = some (mkO m)
section
variable {u u' : World} {b : Nat} {m : Mk}
theorem Mx.cells (q : Mx u b m) : u.cell? ⟨b, 0, none⟩ = some (.int .u8 m.sg) ∧ u.cell? ⟨b, 1, none⟩ = some (.string ⟨m.tx.toArray⟩) := by
  unfold Mx mkO at q
  refine ⟨?_, ?_⟩ <;> rw [Lib.cell_of_heap q] <;> rfl
theorem Mx.lt (q : Mx u b m) : b < u.heap.size := (Array.getElem?_eq_some_iff.1 q).1
theorem Mx.low (q : Mx u b m) (hg : Below u.heap.size u u') : Mx u' b m := (hg.block b q.lt).trans q
theorem Mx.new (w : World) (m : Mk) : Mx (w.alloc (mkO m)) w.heap.size m := _root_.Go.heap_alloc_new w _
end
theorem Hx.row {W : World} {b : Nat} {h : Hk} {v : Value} (q : Hx W b h v) (n : Nat) : Hx (W.drewN n) b h v := q

set_option maxHeartbeats 4000000 in
theorem rfields_f (h : Hk) (v : Value) (w : World) (hv : HMk w v h.ls) (hl : h.ls.length ≤ 1099511627776) (htx : ∀ m ∈ h.ls, m.tx.length ≤ 1099511627776) (r : Bool) (HR : Hid (fldB h.ls = r)) : Calls Tryd.prog 56 #[hkV h v] w fun e w' => e = .returned (.bool r) ∧ Below w.heap.size w w' := by
  obtain ⟨A, AN, B, BN, ls⟩ := h
  dsimp only at hv hl HR htx
  obtain ⟨lo, lc, rfl⟩ := HMk.form hv
  have hx := Hx.new w ⟨A, AN, B, BN, ls⟩ (.slice lo ls.length lc)
  have hBl : Below w.heap.size w (w.alloc (hkO ⟨A, AN, B, BN, ls⟩ (.slice lo ls.length lc))) := (Below.refl _ w).alloc (Nat.le_refl _) _
  have hv1 := HMk.keep hv hBl (Nat.le_refl _)
  have HTX : Hid (∀ m ∈ ls, m.tx.length ≤ 1099511627776) := htx
  clear htx
  unfold hkV
  dsimp only
  go_enter Tryd.func56, Tryd.ntmps56
  go_wp2
  have hW : w.alloc (hkO ⟨A, AN, B, BN, ls⟩ (.slice lo ls.length lc)) = w.alloc (Obj.cells #[Value.int IntKind.i64 A, Value.int IntKind.i64 AN, Value.int IntKind.i64 B, Value.int IntKind.i64 BN, .slice lo ls.length lc] 44) := rfl
  rw [← hW]
  have HSZ : Hid ((w.alloc (hkO ⟨A, AN, B, BN, ls⟩ (.slice lo ls.length lc))).heap.size = w.heap.size + 1) := (by show _ = _; simp)
  clear hW hv
  generalize w.alloc (hkO ⟨A, AN, B, BN, ls⟩ (.slice lo ls.length lc)) = W at *
  go_loopw [3] (fun iv wr => ∃ (k : Nat), k ≤ ls.length ∧ iv = .int .i64 (k : Int) ∧ Below W.heap.size W wr ∧ Hid (fldB (ls.drop k) = r)) (fun iv _ => ls.length - (intOf iv).toNat)
  case atStart => exact ⟨0, Nat.zero_le _, by go_num, Below.refl _ _, HR⟩
  case round =>
    obtain ⟨k, hk, rfl, hB, HI⟩ := hrel
    obtain ⟨x0, x1, x2, x3, x4⟩ := (hx.low hB).cells
    by_cases hlt : k < ls.length
    · obtain ⟨b, off, rfl, hb, _⟩ := HMk.at hv1 (by omega)
      obtain ⟨m, hm⟩ : ∃ m, ls[k] = m := ⟨_, rfl⟩
      obtain ⟨c0, c1⟩ := Low.mk hB hv1 k hlt hm
      have htl : m.tx.length ≤ 1099511627776 := HTX.out m (by rw [← hm]; exact List.getElem_mem hlt)
      have HI2 : Hid ((linB m.tx && okS m.sg && (fdB m.tx || ((decide (m.sg = 43) || lstB 45 (ls.drop (k + 1))) && (decide (m.sg = 45) || lstB 43 (ls.drop (k + 1))))) && fldB (ls.drop (k + 1))) = r) := (by
        show _ = _
        rw [← HI.out, List.drop_eq_getElem_cons hlt, hm]
        rfl)
      have i1 : 0 ≤ (k : Int) := by omega
      have i2 : (k : Int) < (ls.length : Int) := by omega
      have hB2 : Below W.heap.size W (wr.alloc (mkO m)) := hB.alloc hB.size _
      obtain ⟨y0, y1⟩ := (Mx.new wr m).cells
      obtain ⟨z0, z1, z2, z3, z4⟩ := (hx.low hB2).cells
      obtain ⟨sg, tx⟩ := m
      obtain ⟨p, hp⟩ : ∃ p, linB tx = p := ⟨_, rfl⟩
      obtain ⟨q, hq⟩ : ∃ q, (linB tx && fdB tx) = q := ⟨_, rfl⟩
      have HP : Hid (linB tx = p) := hp
      have HQ : Hid ((linB tx && fdB tx) = q) := hq
      dsimp only at c0 c1 HI2 y0 y1 z0 z1 z2 z3 z4 x0 x1 x2 x3 x4
      unfold mkO at hB2 y0 y1 z0 z1 z2 z3 z4
      dsimp only at hB2 y0 y1 z0 z1 z2 z3 z4
      clear HI hm HR hp hq
      go_wp2_with fail
      generalize wr.alloc (Obj.cells #[Value.int IntKind.u8 sg, Value.string ⟨tx.toArray⟩] 50) = W2 at *
      refine (rline_f tx W2 htl p q HP HQ).mono ?_
      rintro e w3 ⟨rfl, n3, rfl⟩
      have hB3 : Below W.heap.size W (W2.drewN n3) := Below.dN hB2 n3
      have hv3 := HMk.keep hv1 hB3 (Nat.le_refl _)
      have y0' : (W2.drewN n3).cell? ⟨wr.heap.size, 0, none⟩ = some (.int .u8 sg) := y0
      have z0' : (W2.drewN n3).cell? ⟨w.heap.size, 0, none⟩ = some (.int .i64 A) := z0
      have z1' : (W2.drewN n3).cell? ⟨w.heap.size, 1, none⟩ = some (.int .i64 AN) := z1
      have z2' : (W2.drewN n3).cell? ⟨w.heap.size, 2, none⟩ = some (.int .i64 B) := z2
      have z3' : (W2.drewN n3).cell? ⟨w.heap.size, 3, none⟩ = some (.int .i64 BN) := z3
      have z4' : (W2.drewN n3).cell? ⟨w.heap.size, 4, none⟩ = some (.slice (some ⟨b, off, none⟩) ls.length lc) := z4
      clear y0 y1 z0 z1 z2 z3 z4 x0 x1 x2 x3 x4 c0 c1 hB2
      generalize W2.drewN n3 = W3 at *
      have HF : Hid (Below w.heap.size w W3) := hBl.trans (hB3.mono (by have := HSZ.out; omega))
      cases p with
      | false =>
        obtain rfl : r = false := by rw [← HI2.out, HP.out]; rfl
        clear HI2 HP HQ
        go_wp2
        go_ret
        exact ⟨rfl, HF.out⟩
      | true =>
        by_cases h1 : sg = 32
        · subst h1
          cases q with
          | true =>
            have HI4 : Hid (fldB (ls.drop (k + 1)) = r) := (by
              have hfd : fdB tx = true := by have := HQ.out; rw [HP.out] at this; simpa using this
              show _ = _
              rw [← HI2.out, HP.out, hfd]
              simp [okS])
            clear HI2 HP HQ
            go_wp2
            exact ⟨⟨k + 1, by omega, by go_num, hB3, HI4⟩, by simp [intOf]; omega⟩
          | false =>
            have hfd : fdB tx = false := by have := HQ.out; rw [HP.out] at this; simpa using this
            obtain ⟨r1, h1⟩ : ∃ r1, lstB 45 (ls.drop (k + 1)) = r1 := ⟨_, rfl⟩
            obtain ⟨r2, h2⟩ : ∃ r2, lstB 43 (ls.drop (k + 1)) = r2 := ⟨_, rfl⟩
            have HI3 : Hid ((r1 && r2 && fldB (ls.drop (k + 1))) = r) := (by
              show _ = _
              rw [← HI2.out, HP.out, hfd, h1, h2]
              simp [okS])
            have H1 : Hid (lstB 45 (ls.drop (k + 1)) = r1) := h1
            have H2 : Hid (lstB 43 (ls.drop (k + 1)) = r2) := h2
            clear HI2 HP HQ hfd h1 h2
            go_wp2_with fail
            refine (rlast_f ⟨A, AN, B, BN, ls⟩ _ k 45 W3 hv3 hl hk r1 H1).mono ?_
            rintro e w4 ⟨rfl, hB4⟩
            have hB04 := hB3.trans (hB4.mono hB3.size)
            have HF4 : Hid (Below w.heap.size w w4) := HF.out.trans (hB4.mono HF.out.size)
            cases r1 with
            | false =>
              obtain rfl : r = false := by rw [← HI3.out]; rfl
              clear HI3 H1 H2
              go_wp2
              go_ret
              exact ⟨rfl, HF4.out⟩
            | true =>
              have hv4 := HMk.keep hv1 hB04 (Nat.le_refl _)
              obtain ⟨t0, t1, t2, t3, t4⟩ := (hx.low hB04).cells
              have y4 : w4.cell? ⟨wr.heap.size, 0, none⟩ = some (.int .u8 32) := (World.cell?_of_block (w := W3) (hB4.block _ (World.block_lt_of_cell? _ _ y0'))).trans y0'
              dsimp only at t0 t1 t2 t3 t4
              clear y0' z0' z1' z2' z3' z4'
              go_wp2_with fail
              refine (rlast_f ⟨A, AN, B, BN, ls⟩ _ k 43 w4 hv4 hl hk r2 H2).mono ?_
              rintro e w5 ⟨rfl, hB5⟩
              have hB05 := hB04.trans (hB5.mono hB04.size)
              have HF5 : Hid (Below w.heap.size w w5) := HF4.out.trans (hB5.mono HF4.out.size)
              cases r2 with
              | false =>
                obtain rfl : r = false := by rw [← HI3.out]; rfl
                clear HI3 H1 H2
                go_wp2
                go_ret
                exact ⟨rfl, HF5.out⟩
              | true =>
                have HI4 : Hid (fldB (ls.drop (k + 1)) = r) := (by show _ = _; rw [← HI3.out]; rfl)
                clear HI3 H1 H2
                go_wp2
                exact ⟨⟨k + 1, by omega, by go_num, hB05, HI4⟩, by simp [intOf]; omega⟩
        · have e1 : (sg == 32) = false := by simpa using h1
          by_cases h2 : sg = 45
          · subst h2
            cases q with
            | true =>
              have HI4 : Hid (fldB (ls.drop (k + 1)) = r) := (by
                have hfd : fdB tx = true := by have := HQ.out; rw [HP.out] at this; simpa using this
                show _ = _
                rw [← HI2.out, HP.out, hfd]
                simp [okS])
              clear HI2 HP HQ
              go_wp2
              exact ⟨⟨k + 1, by omega, by go_num, hB3, HI4⟩, by simp [intOf]; omega⟩
            | false =>
              have hfd : fdB tx = false := by have := HQ.out; rw [HP.out] at this; simpa using this
              obtain ⟨r1, h1'⟩ : ∃ r1, lstB 45 (ls.drop (k + 1)) = r1 := ⟨_, rfl⟩
              have HI3 : Hid ((r1 && fldB (ls.drop (k + 1))) = r) := (by
                show _ = _
                rw [← HI2.out, HP.out, hfd, h1']
                simp [okS])
              have H1 : Hid (lstB 45 (ls.drop (k + 1)) = r1) := h1'
              clear HI2 HP HQ hfd h1'
              go_wp2_with fail
              refine (rlast_f ⟨A, AN, B, BN, ls⟩ _ k 45 W3 hv3 hl hk r1 H1).mono ?_
              rintro e w4 ⟨rfl, hB4⟩
              have hB04 := hB3.trans (hB4.mono hB3.size)
              have HF4 : Hid (Below w.heap.size w w4) := HF.out.trans (hB4.mono HF.out.size)
              have y4 : w4.cell? ⟨wr.heap.size, 0, none⟩ = some (.int .u8 45) := (World.cell?_of_block (w := W3) (hB4.block _ (World.block_lt_of_cell? _ _ y0'))).trans y0'
              clear y0' z0' z1' z2' z3' z4'
              cases r1 with
              | false =>
                obtain rfl : r = false := by rw [← HI3.out]; rfl
                clear HI3 H1
                go_wp2
                go_ret
                exact ⟨rfl, HF4.out⟩
              | true =>
                have HI4 : Hid (fldB (ls.drop (k + 1)) = r) := (by show _ = _; rw [← HI3.out]; rfl)
                clear HI3 H1
                go_wp2
                exact ⟨⟨k + 1, by omega, by go_num, hB04, HI4⟩, by simp [intOf]; omega⟩
          · have e2 : (sg == 45) = false := by simpa using h2
            by_cases h3 : sg = 43
            · subst h3
              cases q with
              | true =>
                have HI4 : Hid (fldB (ls.drop (k + 1)) = r) := (by
                  have hfd : fdB tx = true := by have := HQ.out; rw [HP.out] at this; simpa using this
                  show _ = _
                  rw [← HI2.out, HP.out, hfd]
                  simp [okS])
                clear HI2 HP HQ
                go_wp2
                exact ⟨⟨k + 1, by omega, by go_num, hB3, HI4⟩, by simp [intOf]; omega⟩
              | false =>
                have hfd : fdB tx = false := by have := HQ.out; rw [HP.out] at this; simpa using this
                obtain ⟨r1, h1'⟩ : ∃ r1, lstB 43 (ls.drop (k + 1)) = r1 := ⟨_, rfl⟩
                have HI3 : Hid ((r1 && fldB (ls.drop (k + 1))) = r) := (by
                  show _ = _
                  rw [← HI2.out, HP.out, hfd, h1']
                  simp [okS])
                have H1 : Hid (lstB 43 (ls.drop (k + 1)) = r1) := h1'
                clear HI2 HP HQ hfd h1'
                go_wp2_with fail
                refine (rlast_f ⟨A, AN, B, BN, ls⟩ _ k 43 W3 hv3 hl hk r1 H1).mono ?_
                rintro e w4 ⟨rfl, hB4⟩
                have hB04 := hB3.trans (hB4.mono hB3.size)
                have HF4 : Hid (Below w.heap.size w w4) := HF.out.trans (hB4.mono HF.out.size)
                have y4 : w4.cell? ⟨wr.heap.size, 0, none⟩ = some (.int .u8 43) := (World.cell?_of_block (w := W3) (hB4.block _ (World.block_lt_of_cell? _ _ y0'))).trans y0'
                clear y0' z0' z1' z2' z3' z4'
                cases r1 with
                | false =>
                  obtain rfl : r = false := by rw [← HI3.out]; rfl
                  clear HI3 H1
                  go_wp2
                  go_ret
                  exact ⟨rfl, HF4.out⟩
                | true =>
                  have HI4 : Hid (fldB (ls.drop (k + 1)) = r) := (by show _ = _; rw [← HI3.out]; rfl)
                  clear HI3 H1
                  go_wp2
                  exact ⟨⟨k + 1, by omega, by go_num, hB04, HI4⟩, by simp [intOf]; omega⟩
            · have e3 : (sg == 43) = false := by simpa using h3
              have n1 : (sg != 32) = true := by simpa using h1
              have n2 : (sg != 45) = true := by simpa using h2
              have n3' : (sg != 43) = true := by simpa using h3
              obtain rfl : r = false := by rw [← HI2.out]; simp [okS, h1, h2, h3]
              clear HI2 HP HQ h1 h2 h3 e1 e2 e3
              go_wp2
              go_ret
              exact ⟨rfl, HF.out⟩
    · obtain rfl : r = true := by
        rw [← HI.out, List.drop_of_length_le (by omega)]
        rfl
      have hend : decide ((k : Int) < (ls.length : Int)) = false := decide_eq_false (by omega)
      clear HI
      go_wp2
      go_ret
      exact ⟨rfl, hBl.trans (hB.mono (by have := HSZ.out; omega))⟩
end Go.Proofs.YtgcccpmcbjfaaaaDoor

/- Steps of a region that draws its order, taken one by one where a guard says no: reads, calls by their contracts. -/
namespace Go.Proofs.YtgcccpmcbjfaaaaDoor
open Go.RowKit

theorem step_want {b : Bool} {X Y : Prop} (h : b = true) (hX : X) : if b = true then X else Y := by
  rw [if_pos h]
  exact hX
theorem step_none {b : Bool} {X Y : Prop} (h : b = false) (hY : Y) : if b = true then X else Y := by
  rw [if_neg (by rw [h]; exact Bool.false_ne_true)]
  exact hY
/-- an operation that reads alone, or is not wanted, from one stage of the region to the next -/
theorem go_take {P : Program} {S : World → Prop} {md : Region.Mode} {ops : Array Oper} {Q : Exit → Act → World → Prop} {fuel : Nat} {listed : Array Bool} {A : Act} {w : World}
    (i d : Nat) (op : Oper) (v : Value) (hi : ops[i]? = some op) (hd : op.dst = some d) (hs : Region.noSelect ops = true) (hf : Region.free md ops listed i = true) (hr : (Region.ready md ops listed).contains i = true)
    (hQ : ∀ c a w, Q (.panic c) (a.put op.dst v) w → Q (.panic c) a w) (hy : YieldsIf P ops S op v A) (hS : S w)
    (h : wpAnyH P md ops Q S fuel (listed.setIfInBounds i true) (A.put (some d) v) w) : wpAnyH P md ops Q S (fuel + 1) listed A w :=
  wpAnyH_take hi hs hf hr hQ hy hS (by rw [hd]; exact h)
/-- an operation that is not wanted, where nothing else may come up -/
theorem go_none {P : Program} {S : World → Prop} {md : Region.Mode} {ops : Array Oper} {Q : Exit → Act → World → Prop} {fuel : Nat} {listed : Array Bool} {A : Act} {w : World}
    (i d : Nat) (op : Oper) (hi : ops[i]? = some op) (hd : op.dst = some d) (hr : Region.ready md ops listed = [i]) (hwt : Region.wanted op (yielded ops A.tmps) = false) (hS : S w)
    (h : wpAnyH P md ops Q S fuel (listed.setIfInBounds i true) (A.put (some d) undef) w) :
    wpAnyH P md ops Q S (fuel + 1) listed A w := by
  refine wpAnyH_ready hr (by simp) (AllReadyH.cons hi (fun K hK => ?_) AllReadyH.nil)
  refine step_none hwt ?_
  exact hK.out _ _ hS (fun _ => by rw [hd]; exact h)
/-- a call by its contract, where nothing else may come up -/
theorem go_callH {P : Program} {S : World → Prop} {md : Region.Mode} {ops : Array Oper} {Q : Exit → Act → World → Prop} {fuel : Nat} {listed : Array Bool} {A : Act} {w : World}
    (i d : Nat) (op : Oper) (hi : ops[i]? = some op) (hd : op.dst = some d) (hr : Region.ready md ops listed = [i]) (hwt : Region.wanted op (yielded ops A.tmps) = true)
    (F : Nat) (xs : Array Operand) (ts : Array TypeId) (ho : op.op = .call { callee := .value (.func F), args := xs, argTypes := ts })
    (args : Array Value) (hx : xs.map A.eval = args) (hen : ∀ args w, (callFunc F args).run P w = .ok (.enter F args) w) (v : Value)
    (hc : Calls P F args w fun e w' => e = .returned v ∧ S w')
    (h : ∀ w', S w' → wpAnyH P md ops Q S fuel (listed.setIfInBounds i true) (A.put (some d) v) w') :
    wpAnyH P md ops Q S (fuel + 1) listed A w := by
  refine wpAnyH_ready hr (by simp) (AllReadyH.cons hi (fun K hK => ?_) AllReadyH.nil)
  refine step_want hwt ?_
  unfold Oper.wp
  have e : (execOp A.eval op).run P w = .ok (.enter F args) w := by
    have h1 := hen args w
    simp only [execOp, ho, resolve, invoke]
    have h2 : A.eval (.func F) = .func (.func F) #[] #[] := rfl
    simp only [h2, Deferred.ofValue, Sem.run_bind, Sem.run_pure, Result.andThen_ok, hx, Array.append_empty, Array.empty_append]
    exact h1
  rw [e, Oper.upon_enter]
  refine hc.mono ?_
  rintro e w' ⟨rfl, hb⟩
  exact hK.out _ _ hb (fun hu => by rw [hd]; exact h w' hu)
/-- a call of whatever function value by its contract, where nothing else may come up; R: what is told of what is answered -/
theorem go_callE {P : Program} {S : World → Prop} {md : Region.Mode} {ops : Array Oper} {Q : Exit → Act → World → Prop} {fuel : Nat} {listed : Array Bool} {A : Act} {w : World}
    (i d : Nat) (op : Oper) (hi : ops[i]? = some op) (hd : op.dst = some d) (hr : Region.ready md ops listed = [i]) (hwt : Region.wanted op (yielded ops A.tmps) = true)
    (F : Nat) (x : Operand) (xs : Array Operand) (ts : Array TypeId) (ho : op.op = .call { callee := .value x, args := xs, argTypes := ts })
    (cap : Array Value) (hxv : A.eval x = .func (.func F) #[] cap) (args : Array Value) (hx : xs.map A.eval = args) (hen : ∀ args w, (callFunc F args).run P w = .ok (.enter F args) w) (R : Value → World → Prop)
    (hc : Calls P F (args ++ cap) w fun e w' => ∃ v, e = .returned v ∧ S w' ∧ R v w')
    (h : ∀ v w', S w' → R v w' → wpAnyH P md ops Q S fuel (listed.setIfInBounds i true) (A.put (some d) v) w') :
    wpAnyH P md ops Q S (fuel + 1) listed A w := by
  refine wpAnyH_ready hr (by simp) (AllReadyH.cons hi (fun K hK => ?_) AllReadyH.nil)
  refine step_want hwt ?_
  unfold Oper.wp
  have e : (execOp A.eval op).run P w = .ok (.enter F (args ++ cap)) w := by
    have h1 := hen (args ++ cap) w
    simp only [execOp, ho, resolve, invoke]
    simp only [hxv, Deferred.ofValue, Sem.run_bind, Sem.run_pure, Result.andThen_ok, hx, Array.empty_append]
    exact h1
  rw [e, Oper.upon_enter]
  refine hc.mono ?_
  rintro e w' ⟨v, rfl, hb, hR⟩
  exact hK.out _ _ hb (fun hu => by rw [hd]; exact h v w' hu hR)
/-- an operation that yields a value, whatever it does to memory, where nothing else may come up -/
theorem go_val {P : Program} {S : World → Prop} {md : Region.Mode} {ops : Array Oper} {Q : Exit → Act → World → Prop} {fuel : Nat} {listed : Array Bool} {A : Act} {w : World}
    (i d : Nat) (op : Oper) (hi : ops[i]? = some op) (hd : op.dst = some d) (hr : Region.ready md ops listed = [i]) (hwt : Region.wanted op (yielded ops A.tmps) = true)
    (v : Value) (w' : World) (he : (execOp A.eval op).run P w = .ok (.value v) w') (hS : S w')
    (h : wpAnyH P md ops Q S fuel (listed.setIfInBounds i true) (A.put (some d) v) w') :
    wpAnyH P md ops Q S (fuel + 1) listed A w := by
  refine wpAnyH_ready hr (by simp) (AllReadyH.cons hi (fun K hK => ?_) AllReadyH.nil)
  refine step_want hwt ?_
  unfold Oper.wp
  rw [he, Oper.upon_value]
  exact hK.out _ _ hS (fun _ => by rw [hd]; exact h)
/-- a store, where nothing else may come up -/
theorem go_skip {P : Program} {S : World → Prop} {md : Region.Mode} {ops : Array Oper} {Q : Exit → Act → World → Prop} {fuel : Nat} {listed : Array Bool} {A : Act} {w : World}
    (i : Nat) (op : Oper) (hi : ops[i]? = some op) (hd : op.dst = none) (hr : Region.ready md ops listed = [i]) (hwt : Region.wanted op (yielded ops A.tmps) = true)
    (w' : World) (he : (execOp A.eval op).run P w = .ok .skip w') (hS : S w')
    (h : wpAnyH P md ops Q S fuel (listed.setIfInBounds i true) A w') :
    wpAnyH P md ops Q S (fuel + 1) listed A w := by
  refine wpAnyH_ready hr (by simp) (AllReadyH.cons hi (fun K hK => ?_) AllReadyH.nil)
  refine step_want hwt ?_
  unfold Oper.wp
  rw [he, Oper.upon_skip]
  exact hK.out _ _ hS (fun _ => by rw [hd]; exact h)
/-- a number, a slice, a function value is read -/
theorem load_int {u : World} {a : Addr} {z : Int} (h : u.cell? a = some (.int .i64 z)) {op : Oper} (x : Operand) (ho : op.op = .load 3 x) {ev : Operand → Value} (hx : ev x = .pointer (some a)) :
    (execOp ev op).run Tryd.prog u = .ok (.value (.int .i64 z)) u := by
  simp only [execOp, ho, hx]
  go_simp
end Go.Proofs.YtgcccpmcbjfaaaaDoor

/- The reference's Check of layer 11, walked. -/
namespace Go.Proofs.YtgcccpmcbjfaaaaDoor
open Go.RowKit

/-- a hunk is read out of its box -/
theorem load_hk {u : World} {b : Nat} {h : Hk} {v : Value} (q : Hx u b h v) {op : Oper} (x : Operand) (ho : op.op = .load 44 x) {ev : Operand → Value} (hx : ev x = .pointer (some ⟨b, 0, none⟩)) :
    (execOp ev op).run Tryd.prog u = .ok (.value (hkV h v)) u := by
  have hL : (loadVar 44 ⟨b, 0, none⟩).run Tryd.prog u = .ok (hkV h v) u := run_loadVar_row u b _ _ _ _ _ q Tryd.underlying44 rfl (by kernel_rfl)
  simp only [execOp, ho, hx, Instr.loadAt, Instr.sureAddr, Sem.run_bind, Sem.run_pure, Result.andThen_ok, hL]
/-- Old and New within a region that draws -/
theorem old_held {h : Hk} {v : Value} {W u : World} (hv : HMk W v h.ls) (hl : h.ls.length ≤ 1099511627776) {R : List (List UInt8)} (HR : Hid (oldL h = R)) (hL : Low W u) : Calls Tryd.prog 57 (#[hkV h v] ++ #[]) u fun e w' => ∃ x, e = .returned x ∧ Low W w' ∧ ∃ o c, x = .slice o R.length c := by
  refine (rOld_f h v u (HMk.keep hv hL (Nat.le_refl _)) hl R HR).mono ?_
  rintro e w' ⟨x, rfl, hx, hB⟩
  obtain ⟨o, c, rfl⟩ := Holds.form hx
  refine ⟨_, rfl, hL.trans (hB.mono hL.size), o, c, ?_⟩
  rfl
theorem new_held {h : Hk} {v : Value} {W u : World} (hv : HMk W v h.ls) (hl : h.ls.length ≤ 1099511627776) {R : List (List UInt8)} (HR : Hid (newL h = R)) (hL : Low W u) : Calls Tryd.prog 58 (#[hkV h v] ++ #[]) u fun e w' => ∃ x, e = .returned x ∧ Low W w' ∧ ∃ o c, x = .slice o R.length c := by
  refine (rNew_f h v u (HMk.keep hv hL (Nat.le_refl _)) hl R HR).mono ?_
  rintro e w' ⟨x, rfl, hx, hB⟩
  obtain ⟨o, c, rfl⟩ := Holds.form hx
  refine ⟨_, rfl, hL.trans (hB.mono hL.size), o, c, ?_⟩
  rfl

set_option maxRecDepth 10000 in
set_option maxHeartbeats 4000000 in
theorem rhCheck_f (h : Hk) (v : Value) (w : World) (hv : HMk w v h.ls) (hl : h.ls.length ≤ 1099511627776) (htx : ∀ m ∈ h.ls, m.tx.length ≤ 1099511627776) (r : Int) (HR : Hid (chkH h = r)) : Calls Tryd.prog 44 #[hkV h v] w fun e w' => e = .returned (.int .i64 r) ∧ Below w.heap.size w w' := by
  obtain ⟨A, AN, B, BN, ls⟩ := h
  dsimp only at hv hl htx
  obtain ⟨lo, lc, rfl⟩ := HMk.form hv
  have hx := Hx.new w ⟨A, AN, B, BN, ls⟩ (.slice lo ls.length lc)
  have hBl : Below w.heap.size w (w.alloc (hkO ⟨A, AN, B, BN, ls⟩ (.slice lo ls.length lc))) := (Below.refl _ w).alloc (Nat.le_refl _) _
  have hv1 := HMk.keep hv hBl (Nat.le_refl _)
  have HTX : Hid (∀ m ∈ ls, m.tx.length ≤ 1099511627776) := htx
  have HSZ : Hid ((w.alloc (hkO ⟨A, AN, B, BN, ls⟩ (.slice lo ls.length lc))).heap.size = w.heap.size + 1) := (by show _ = _; simp)
  clear htx hv
  obtain ⟨x0, x1, x2, x3, x4⟩ := hx.cells
  unfold hkV
  dsimp only at x0 x1 x2 x3 x4 ⊢
  have hW0 : w.alloc (hkO ⟨A, AN, B, BN, ls⟩ (.slice lo ls.length lc)) = w.alloc (Obj.cells #[Value.int IntKind.i64 A, Value.int IntKind.i64 AN, Value.int IntKind.i64 B, Value.int IntKind.i64 BN, .slice lo ls.length lc] 44) := rfl
  generalize w.alloc (hkO ⟨A, AN, B, BN, ls⟩ (.slice lo ls.length lc)) = W at *
  have hW := hW0.symm
  clear hW0
  go_enter Tryd.func44, Tryd.ntmps44
  go_upto_region 1 with fail
  clear hW
  obtain ⟨g, hg⟩ : ∃ g, rngB ⟨A, AN, B, BN, ls⟩ = g := ⟨_, rfl⟩
  have HGG : Hid (rngB ⟨A, AN, B, BN, ls⟩ = g) := hg
  clear hg
  go_cut [45] from 4 to 45 (fun c wz => c = .bool (!g) ∧ wz = W)
  case first =>
    obtain ⟨p1, hp1⟩ : ∃ p, nat31 A = p := ⟨_, rfl⟩
    obtain ⟨p2, hp2⟩ : ∃ p, nat31 AN = p := ⟨_, rfl⟩
    obtain ⟨p3, hp3⟩ : ∃ p, nat31 B = p := ⟨_, rfl⟩
    obtain ⟨p4, hp4⟩ : ∃ p, nat31 BN = p := ⟨_, rfl⟩
    have HG : Hid ((p1 && p2 && p3 && p4 && !(decide (A = 0) && decide (0 < AN)) && !(decide (B = 0) && decide (0 < BN))) = g) := (by show _ = _; rw [← HGG.out, ← hp1, ← hp2, ← hp3, ← hp4]; rfl)
    clear HGG HR
    go_wp2_with fail
    refine (rnumber_any A W).mono ?_
    rintro e w1 ⟨rfl, hw⟩
    rw [hp1, hw]
    clear hw
    cases p1 with
    | false =>
      obtain rfl : g = false := by rw [← HG.out]; simp
      clear HG hp1 hp2 hp3 hp4
      go_wp2
      go_meet
      case rel => exact ⟨rfl, rfl⟩
    | true =>
      go_wp2_with fail
      refine (rnumber_any AN W).mono ?_
      rintro e w1 ⟨rfl, hw⟩
      rw [hp2, hw]
      clear hw
      cases p2 with
      | false =>
        obtain rfl : g = false := by rw [← HG.out]; simp
        clear HG hp1 hp2 hp3 hp4
        go_wp2
        go_meet
        case rel => exact ⟨rfl, rfl⟩
      | true =>
        go_wp2_with fail
        refine (rnumber_any B W).mono ?_
        rintro e w1 ⟨rfl, hw⟩
        rw [hp3, hw]
        clear hw
        cases p3 with
        | false =>
          obtain rfl : g = false := by rw [← HG.out]; simp
          clear HG hp1 hp2 hp3 hp4
          go_wp2
          go_meet
          case rel => exact ⟨rfl, rfl⟩
        | true =>
          go_wp2_with fail
          refine (rnumber_any BN W).mono ?_
          rintro e w1 ⟨rfl, hw⟩
          rw [hp4, hw]
          clear hw
          cases p4 with
          | false =>
            obtain rfl : g = false := by rw [← HG.out]; simp
            clear HG hp1 hp2 hp3 hp4
            go_wp2
            go_meet
            case rel => exact ⟨rfl, rfl⟩
          | true =>
            by_cases z1 : A = 0
            · subst z1
              by_cases z2 : 0 < AN
              · obtain rfl : g = false := by rw [← HG.out]; simp [z2]
                clear HG hp1 hp2 hp3 hp4
                go_wp2
                go_meet
                case rel => exact ⟨rfl, rfl⟩
              · have z3 : decide (0 < AN) = false := decide_eq_false z2
                by_cases z4 : B = 0
                · subst z4
                  by_cases z5 : 0 < BN
                  · obtain rfl : g = false := by rw [← HG.out]; simp [z5]
                    clear HG hp1 hp2 hp3 hp4
                    go_wp2
                    go_meet
                    case rel => exact ⟨rfl, rfl⟩
                  · obtain rfl : g = true := by rw [← HG.out]; simp [z2, z5]
                    have z6 : decide (0 < BN) = false := decide_eq_false z5
                    clear HG hp1 hp2 hp3 hp4
                    go_wp2
                    go_meet
                    case rel => exact ⟨rfl, rfl⟩
                · obtain rfl : g = true := by rw [← HG.out]; simp [z2, z4]
                  have z6 : (B == 0) = false := by simpa using z4
                  clear HG hp1 hp2 hp3 hp4
                  go_wp2
                  go_meet
                  case rel => exact ⟨rfl, rfl⟩
            · have z3 : (A == 0) = false := by simpa using z1
              by_cases z4 : B = 0
              · subst z4
                by_cases z5 : 0 < BN
                · obtain rfl : g = false := by rw [← HG.out]; simp [z5]
                  clear HG hp1 hp2 hp3 hp4
                  go_wp2
                  go_meet
                  case rel => exact ⟨rfl, rfl⟩
                · obtain rfl : g = true := by rw [← HG.out]; simp [z1, z5]
                  have z6 : decide (0 < BN) = false := decide_eq_false z5
                  clear HG hp1 hp2 hp3 hp4
                  go_wp2
                  go_meet
                  case rel => exact ⟨rfl, rfl⟩
              · obtain rfl : g = true := by rw [← HG.out]; simp [z1, z4]
                have z6 : (B == 0) = false := by simpa using z4
                clear HG hp1 hp2 hp3 hp4
                go_wp2
                go_meet
                case rel => exact ⟨rfl, rfl⟩
  case rest =>
    obtain ⟨rfl, rfl⟩ := hcut
    cases g with
    | false =>
      have HE : Hid (r = 2) := (by have hg := HGG.out; show _ = _; rw [← HR.out]; simp [chkH, hg])
      clear HGG HR
      go_wp2
      go_ret
      exact ⟨ret_int HE.out.symm, hBl⟩
    | true =>
      have HG : Hid (rngB ⟨A, AN, B, BN, ls⟩ = true) := HGG.out
      clear HGG
      obtain ⟨fb, hfb⟩ : ∃ f, fldB ls = f := ⟨_, rfl⟩
      have HFB : Hid (fldB ls = fb) := hfb
      clear hfb
      go_wp2_with fail
      refine (rfields_f ⟨A, AN, B, BN, ls⟩ _ _ hv1 hl HTX.out fb HFB).mono ?_
      rintro e W4 ⟨rfl, hB4⟩
      have hB04 := hBl.trans (hB4.mono hBl.size)
      cases fb with
      | false =>
        have HE : Hid (r = 6) := (by
          have h1 := HG.out
          have h2 := HFB.out
          show _ = _
          rw [← HR.out]
          simp [chkH, h1, h2])
        clear HR HG HFB
        go_wp2
        go_ret
        exact ⟨ret_int HE.out.symm, hB04⟩
      | true =>
        have hxW : Hx W4 w.heap.size ⟨A, AN, B, BN, ls⟩ (.slice lo ls.length lc) := hx.low hB4
        have hv4 := HMk.keep hv1 hB4 (Nat.le_refl _)
        obtain ⟨RO, hO⟩ : ∃ RO, oldL ⟨A, AN, B, BN, ls⟩ = RO := ⟨_, rfl⟩
        obtain ⟨RN, hN⟩ : ∃ RN, newL ⟨A, AN, B, BN, ls⟩ = RN := ⟨_, rfl⟩
        have HO : Hid (oldL ⟨A, AN, B, BN, ls⟩ = RO) := hO
        have HN : Hid (newL ⟨A, AN, B, BN, ls⟩ = RN) := hN
        obtain ⟨ol, hol⟩ : ∃ n, RO.length = n := ⟨_, rfl⟩
        obtain ⟨nl, hnl⟩ : ∃ n, RN.length = n := ⟨_, rfl⟩
        have HE : Hid ((if AN ≠ (ol : Int) ∨ BN ≠ (nl : Int) then (120 : Int) else if ls.all (fun m => decide (m.sg = 32)) = true then 50 else 0) = r) := (by
          have h1 := HG.out
          have h2 := HFB.out
          show _ = _
          rw [← HR.out, ← hol, ← hnl, ← hO, ← hN]
          simp only [chkH, h1, h2, Bool.true_eq_false, if_false])
        have hxx : ∀ u : World, Low W4 u → Hx u w.heap.size ⟨A, AN, B, BN, ls⟩ (.slice lo ls.length lc) := fun u hu => hxW.low hu
        have hx4 : ∀ u : World, Low W4 u → u.cell? ⟨w.heap.size, 0, none⟩ = some (.int .i64 A) ∧ u.cell? ⟨w.heap.size, 1, none⟩ = some (.int .i64 AN) ∧ u.cell? ⟨w.heap.size, 2, none⟩ = some (.int .i64 B) ∧ u.cell? ⟨w.heap.size, 3, none⟩ = some (.int .i64 BN) ∧ u.cell? ⟨w.heap.size, 4, none⟩ = some (.slice lo ls.length lc) := fun u hu => (hxx u hu).cells
        clear hO hN HR HG HFB x0 x1 x2 x3 x4
        go_upto_region 5 with fail
        obtain ⟨cb, hcb⟩ : ∃ b, decide (AN ≠ (ol : Int) ∨ BN ≠ (nl : Int)) = b := ⟨_, rfl⟩
        have HCB : Hid (decide (AN ≠ (ol : Int) ∨ BN ≠ (nl : Int)) = cb) := hcb
        clear hcb
        go_cut [62] from 49 to 62 (fun c wz => c = .bool cb ∧ Low W4 wz)
        case first =>
          have hlow : Low W4 (W4.drewN 1) := Below.dN (Below.refl _ W4) 1
          by_cases z1 : AN = (ol : Int)
          · have hne : (AN != (ol : Int)) = false := by simpa using z1
            by_cases z2 : BN = (nl : Int)
            · have hne2 : (BN != (nl : Int)) = false := by simpa using z2
              obtain rfl : cb = false := by rw [← HCB.out]; simp [z1, z2]
              clear HCB z1 z2
              refine wp_region_noPanic ?_
              refine wp_region_held_drew (S := fun u => Low W4 u) (by kernel_rfl) hlow (fun hHeld => ?_)
              refine go_take 0 49 _ (.pointer (some ⟨w.heap.size, 1, none⟩)) rfl (by kernel_rfl) (by kernel_rfl) (by kernel_rfl) (by kernel_rfl) (fun _ _ _ h => h) (Or.inl ⟨by kernel_rfl, fun u hu => by kernel_rfl⟩) hHeld ?_
              simp only [Act.put, List.setIfInBounds_toArray, List.set_cons_zero, List.set_cons_succ]
              refine go_take 1 50 _ (.int .i64 AN) rfl (by kernel_rfl) (by kernel_rfl) (by kernel_rfl) (by kernel_rfl) (fun _ _ _ h => h) (Or.inl ⟨by kernel_rfl, fun u hu => load_int (hx4 u hu).2.1 (.tmp 49) (by kernel_rfl) (by kernel_rfl)⟩) hHeld ?_
              simp only [Act.put, List.setIfInBounds_toArray, List.set_cons_zero, List.set_cons_succ]
              refine go_take 2 51 _ (hkV ⟨A, AN, B, BN, ls⟩ (.slice lo ls.length lc)) rfl (by kernel_rfl) (by kernel_rfl) (by kernel_rfl) (by kernel_rfl) (fun _ _ _ h => h) (Or.inl ⟨by kernel_rfl, fun u hu => load_hk (hxx u hu) (.tmp 1) (by kernel_rfl) (by kernel_rfl)⟩) hHeld ?_
              simp only [Act.put, List.setIfInBounds_toArray, List.set_cons_zero, List.set_cons_succ]
              refine go_callE 3 52 _ rfl (by kernel_rfl) (by kernel_rfl) (by kernel_rfl) 57 (.func 57) #[.tmp 51] #[44] (by kernel_rfl) #[] (by kernel_rfl) #[hkV ⟨A, AN, B, BN, ls⟩ (.slice lo ls.length lc)] (by kernel_rfl) (enters_of Tryd.func57 (by kernel_rfl) rfl) _ (old_held hv4 hl HO hHeld) ?_
              rintro v5 w5 hu5 ⟨o5, c5, rfl⟩
              rw [hol]
              replace hHeld := hu5
              simp only [Act.put, List.setIfInBounds_toArray, List.set_cons_zero, List.set_cons_succ]
              refine go_take 4 53 _ (.int .i64 (ol : Int)) rfl (by kernel_rfl) (by kernel_rfl) (by kernel_rfl) (by kernel_rfl) (fun _ _ _ h => h) (Or.inl ⟨by kernel_rfl, fun u hu => by kernel_rfl⟩) hHeld ?_
              simp only [Act.put, List.setIfInBounds_toArray, List.set_cons_zero, List.set_cons_succ]
              refine go_take 5 54 _ (.bool (AN != (ol : Int))) rfl (by kernel_rfl) (by kernel_rfl) (by kernel_rfl) (by kernel_rfl) (fun _ _ _ h => h) (Or.inl ⟨by kernel_rfl, fun u hu => by kernel_rfl⟩) hHeld ?_
              simp only [Act.put, List.setIfInBounds_toArray, List.set_cons_zero, List.set_cons_succ]
              simp only [hne]
              refine go_take 6 55 _ (.bool false) rfl (by kernel_rfl) (by kernel_rfl) (by kernel_rfl) (by kernel_rfl) (fun _ _ _ h => h) (Or.inl ⟨by kernel_rfl, fun u hu => by kernel_rfl⟩) hHeld ?_
              simp only [Act.put, List.setIfInBounds_toArray, List.set_cons_zero, List.set_cons_succ]
              refine go_take 7 56 _ (.pointer (some ⟨w.heap.size, 3, none⟩)) rfl (by kernel_rfl) (by kernel_rfl) (by kernel_rfl) (by kernel_rfl) (fun _ _ _ h => h) (Or.inl ⟨by kernel_rfl, fun u hu => by kernel_rfl⟩) hHeld ?_
              simp only [Act.put, List.setIfInBounds_toArray, List.set_cons_zero, List.set_cons_succ]
              refine go_take 8 57 _ (.int .i64 BN) rfl (by kernel_rfl) (by kernel_rfl) (by kernel_rfl) (by kernel_rfl) (fun _ _ _ h => h) (Or.inl ⟨by kernel_rfl, fun u hu => load_int (hx4 u hu).2.2.2.1 (.tmp 56) (by kernel_rfl) (by kernel_rfl)⟩) hHeld ?_
              simp only [Act.put, List.setIfInBounds_toArray, List.set_cons_zero, List.set_cons_succ]
              refine go_take 9 58 _ (hkV ⟨A, AN, B, BN, ls⟩ (.slice lo ls.length lc)) rfl (by kernel_rfl) (by kernel_rfl) (by kernel_rfl) (by kernel_rfl) (fun _ _ _ h => h) (Or.inl ⟨by kernel_rfl, fun u hu => load_hk (hxx u hu) (.tmp 1) (by kernel_rfl) (by kernel_rfl)⟩) hHeld ?_
              simp only [Act.put, List.setIfInBounds_toArray, List.set_cons_zero, List.set_cons_succ]
              refine go_callE 10 59 _ rfl (by kernel_rfl) (by kernel_rfl) (by kernel_rfl) 58 (.func 58) #[.tmp 58] #[44] (by kernel_rfl) #[] (by kernel_rfl) #[hkV ⟨A, AN, B, BN, ls⟩ (.slice lo ls.length lc)] (by kernel_rfl) (enters_of Tryd.func58 (by kernel_rfl) rfl) _ (new_held hv4 hl HN hHeld) ?_
              rintro v6 w6 hu6 ⟨o6, c6, rfl⟩
              rw [hnl]
              replace hHeld := hu6
              simp only [Act.put, List.setIfInBounds_toArray, List.set_cons_zero, List.set_cons_succ]
              refine go_take 11 60 _ (.int .i64 (nl : Int)) rfl (by kernel_rfl) (by kernel_rfl) (by kernel_rfl) (by kernel_rfl) (fun _ _ _ h => h) (Or.inl ⟨by kernel_rfl, fun u hu => by kernel_rfl⟩) hHeld ?_
              simp only [Act.put, List.setIfInBounds_toArray, List.set_cons_zero, List.set_cons_succ]
              refine go_take 12 61 _ (.bool (BN != (nl : Int))) rfl (by kernel_rfl) (by kernel_rfl) (by kernel_rfl) (by kernel_rfl) (fun _ _ _ h => h) (Or.inl ⟨by kernel_rfl, fun u hu => by kernel_rfl⟩) hHeld ?_
              simp only [Act.put, List.setIfInBounds_toArray, List.set_cons_zero, List.set_cons_succ]
              simp only [hne2]
              refine go_take 13 62 _ (.bool false) rfl (by kernel_rfl) (by kernel_rfl) (by kernel_rfl) (by kernel_rfl) (fun _ _ _ h => h) (Or.inl ⟨by kernel_rfl, fun u hu => by kernel_rfl⟩) hHeld ?_
              simp only [Act.put, List.setIfInBounds_toArray, List.set_cons_zero, List.set_cons_succ]
              refine wpAnyH_done (by kernel_rfl) ?_ _
              refine NoPanic.normal ?_
              go_wp2_with fail
              go_meet
              case rel => exact ⟨rfl, hHeld⟩
            · have hne2 : (BN != (nl : Int)) = true := by simpa using z2
              obtain rfl : cb = true := by rw [← HCB.out]; simp [z2]
              clear HCB z1 z2
              refine wp_region_noPanic ?_
              refine wp_region_held_drew (S := fun u => Low W4 u) (by kernel_rfl) hlow (fun hHeld => ?_)
              refine go_take 0 49 _ (.pointer (some ⟨w.heap.size, 1, none⟩)) rfl (by kernel_rfl) (by kernel_rfl) (by kernel_rfl) (by kernel_rfl) (fun _ _ _ h => h) (Or.inl ⟨by kernel_rfl, fun u hu => by kernel_rfl⟩) hHeld ?_
              simp only [Act.put, List.setIfInBounds_toArray, List.set_cons_zero, List.set_cons_succ]
              refine go_take 1 50 _ (.int .i64 AN) rfl (by kernel_rfl) (by kernel_rfl) (by kernel_rfl) (by kernel_rfl) (fun _ _ _ h => h) (Or.inl ⟨by kernel_rfl, fun u hu => load_int (hx4 u hu).2.1 (.tmp 49) (by kernel_rfl) (by kernel_rfl)⟩) hHeld ?_
              simp only [Act.put, List.setIfInBounds_toArray, List.set_cons_zero, List.set_cons_succ]
              refine go_take 2 51 _ (hkV ⟨A, AN, B, BN, ls⟩ (.slice lo ls.length lc)) rfl (by kernel_rfl) (by kernel_rfl) (by kernel_rfl) (by kernel_rfl) (fun _ _ _ h => h) (Or.inl ⟨by kernel_rfl, fun u hu => load_hk (hxx u hu) (.tmp 1) (by kernel_rfl) (by kernel_rfl)⟩) hHeld ?_
              simp only [Act.put, List.setIfInBounds_toArray, List.set_cons_zero, List.set_cons_succ]
              refine go_callE 3 52 _ rfl (by kernel_rfl) (by kernel_rfl) (by kernel_rfl) 57 (.func 57) #[.tmp 51] #[44] (by kernel_rfl) #[] (by kernel_rfl) #[hkV ⟨A, AN, B, BN, ls⟩ (.slice lo ls.length lc)] (by kernel_rfl) (enters_of Tryd.func57 (by kernel_rfl) rfl) _ (old_held hv4 hl HO hHeld) ?_
              rintro v5 w5 hu5 ⟨o5, c5, rfl⟩
              rw [hol]
              replace hHeld := hu5
              simp only [Act.put, List.setIfInBounds_toArray, List.set_cons_zero, List.set_cons_succ]
              refine go_take 4 53 _ (.int .i64 (ol : Int)) rfl (by kernel_rfl) (by kernel_rfl) (by kernel_rfl) (by kernel_rfl) (fun _ _ _ h => h) (Or.inl ⟨by kernel_rfl, fun u hu => by kernel_rfl⟩) hHeld ?_
              simp only [Act.put, List.setIfInBounds_toArray, List.set_cons_zero, List.set_cons_succ]
              refine go_take 5 54 _ (.bool (AN != (ol : Int))) rfl (by kernel_rfl) (by kernel_rfl) (by kernel_rfl) (by kernel_rfl) (fun _ _ _ h => h) (Or.inl ⟨by kernel_rfl, fun u hu => by kernel_rfl⟩) hHeld ?_
              simp only [Act.put, List.setIfInBounds_toArray, List.set_cons_zero, List.set_cons_succ]
              simp only [hne]
              refine go_take 6 55 _ (.bool false) rfl (by kernel_rfl) (by kernel_rfl) (by kernel_rfl) (by kernel_rfl) (fun _ _ _ h => h) (Or.inl ⟨by kernel_rfl, fun u hu => by kernel_rfl⟩) hHeld ?_
              simp only [Act.put, List.setIfInBounds_toArray, List.set_cons_zero, List.set_cons_succ]
              refine go_take 7 56 _ (.pointer (some ⟨w.heap.size, 3, none⟩)) rfl (by kernel_rfl) (by kernel_rfl) (by kernel_rfl) (by kernel_rfl) (fun _ _ _ h => h) (Or.inl ⟨by kernel_rfl, fun u hu => by kernel_rfl⟩) hHeld ?_
              simp only [Act.put, List.setIfInBounds_toArray, List.set_cons_zero, List.set_cons_succ]
              refine go_take 8 57 _ (.int .i64 BN) rfl (by kernel_rfl) (by kernel_rfl) (by kernel_rfl) (by kernel_rfl) (fun _ _ _ h => h) (Or.inl ⟨by kernel_rfl, fun u hu => load_int (hx4 u hu).2.2.2.1 (.tmp 56) (by kernel_rfl) (by kernel_rfl)⟩) hHeld ?_
              simp only [Act.put, List.setIfInBounds_toArray, List.set_cons_zero, List.set_cons_succ]
              refine go_take 9 58 _ (hkV ⟨A, AN, B, BN, ls⟩ (.slice lo ls.length lc)) rfl (by kernel_rfl) (by kernel_rfl) (by kernel_rfl) (by kernel_rfl) (fun _ _ _ h => h) (Or.inl ⟨by kernel_rfl, fun u hu => load_hk (hxx u hu) (.tmp 1) (by kernel_rfl) (by kernel_rfl)⟩) hHeld ?_
              simp only [Act.put, List.setIfInBounds_toArray, List.set_cons_zero, List.set_cons_succ]
              refine go_callE 10 59 _ rfl (by kernel_rfl) (by kernel_rfl) (by kernel_rfl) 58 (.func 58) #[.tmp 58] #[44] (by kernel_rfl) #[] (by kernel_rfl) #[hkV ⟨A, AN, B, BN, ls⟩ (.slice lo ls.length lc)] (by kernel_rfl) (enters_of Tryd.func58 (by kernel_rfl) rfl) _ (new_held hv4 hl HN hHeld) ?_
              rintro v6 w6 hu6 ⟨o6, c6, rfl⟩
              rw [hnl]
              replace hHeld := hu6
              simp only [Act.put, List.setIfInBounds_toArray, List.set_cons_zero, List.set_cons_succ]
              refine go_take 11 60 _ (.int .i64 (nl : Int)) rfl (by kernel_rfl) (by kernel_rfl) (by kernel_rfl) (by kernel_rfl) (fun _ _ _ h => h) (Or.inl ⟨by kernel_rfl, fun u hu => by kernel_rfl⟩) hHeld ?_
              simp only [Act.put, List.setIfInBounds_toArray, List.set_cons_zero, List.set_cons_succ]
              refine go_take 12 61 _ (.bool (BN != (nl : Int))) rfl (by kernel_rfl) (by kernel_rfl) (by kernel_rfl) (by kernel_rfl) (fun _ _ _ h => h) (Or.inl ⟨by kernel_rfl, fun u hu => by kernel_rfl⟩) hHeld ?_
              simp only [Act.put, List.setIfInBounds_toArray, List.set_cons_zero, List.set_cons_succ]
              simp only [hne2]
              refine go_take 13 62 _ (.bool true) rfl (by kernel_rfl) (by kernel_rfl) (by kernel_rfl) (by kernel_rfl) (fun _ _ _ h => h) (Or.inl ⟨by kernel_rfl, fun u hu => by kernel_rfl⟩) hHeld ?_
              simp only [Act.put, List.setIfInBounds_toArray, List.set_cons_zero, List.set_cons_succ]
              refine wpAnyH_done (by kernel_rfl) ?_ _
              refine NoPanic.normal ?_
              go_wp2_with fail
              go_meet
              case rel => exact ⟨rfl, hHeld⟩
          · have hne : (AN != (ol : Int)) = true := by simpa using z1
            obtain rfl : cb = true := by rw [← HCB.out]; simp [z1]
            clear HCB z1
            refine wp_region_noPanic ?_
            refine wp_region_held_drew (S := fun u => Low W4 u) (by kernel_rfl) hlow (fun hHeld => ?_)
            refine go_take 0 49 _ (.pointer (some ⟨w.heap.size, 1, none⟩)) rfl (by kernel_rfl) (by kernel_rfl) (by kernel_rfl) (by kernel_rfl) (fun _ _ _ h => h) (Or.inl ⟨by kernel_rfl, fun u hu => by kernel_rfl⟩) hHeld ?_
            simp only [Act.put, List.setIfInBounds_toArray, List.set_cons_zero, List.set_cons_succ]
            refine go_take 1 50 _ (.int .i64 AN) rfl (by kernel_rfl) (by kernel_rfl) (by kernel_rfl) (by kernel_rfl) (fun _ _ _ h => h) (Or.inl ⟨by kernel_rfl, fun u hu => load_int (hx4 u hu).2.1 (.tmp 49) (by kernel_rfl) (by kernel_rfl)⟩) hHeld ?_
            simp only [Act.put, List.setIfInBounds_toArray, List.set_cons_zero, List.set_cons_succ]
            refine go_take 2 51 _ (hkV ⟨A, AN, B, BN, ls⟩ (.slice lo ls.length lc)) rfl (by kernel_rfl) (by kernel_rfl) (by kernel_rfl) (by kernel_rfl) (fun _ _ _ h => h) (Or.inl ⟨by kernel_rfl, fun u hu => load_hk (hxx u hu) (.tmp 1) (by kernel_rfl) (by kernel_rfl)⟩) hHeld ?_
            simp only [Act.put, List.setIfInBounds_toArray, List.set_cons_zero, List.set_cons_succ]
            refine go_callE 3 52 _ rfl (by kernel_rfl) (by kernel_rfl) (by kernel_rfl) 57 (.func 57) #[.tmp 51] #[44] (by kernel_rfl) #[] (by kernel_rfl) #[hkV ⟨A, AN, B, BN, ls⟩ (.slice lo ls.length lc)] (by kernel_rfl) (enters_of Tryd.func57 (by kernel_rfl) rfl) _ (old_held hv4 hl HO hHeld) ?_
            rintro v5 w5 hu5 ⟨o5, c5, rfl⟩
            rw [hol]
            replace hHeld := hu5
            simp only [Act.put, List.setIfInBounds_toArray, List.set_cons_zero, List.set_cons_succ]
            refine go_take 4 53 _ (.int .i64 (ol : Int)) rfl (by kernel_rfl) (by kernel_rfl) (by kernel_rfl) (by kernel_rfl) (fun _ _ _ h => h) (Or.inl ⟨by kernel_rfl, fun u hu => by kernel_rfl⟩) hHeld ?_
            simp only [Act.put, List.setIfInBounds_toArray, List.set_cons_zero, List.set_cons_succ]
            refine go_take 5 54 _ (.bool (AN != (ol : Int))) rfl (by kernel_rfl) (by kernel_rfl) (by kernel_rfl) (by kernel_rfl) (fun _ _ _ h => h) (Or.inl ⟨by kernel_rfl, fun u hu => by kernel_rfl⟩) hHeld ?_
            simp only [Act.put, List.setIfInBounds_toArray, List.set_cons_zero, List.set_cons_succ]
            simp only [hne]
            refine go_take 6 55 _ (.bool true) rfl (by kernel_rfl) (by kernel_rfl) (by kernel_rfl) (by kernel_rfl) (fun _ _ _ h => h) (Or.inl ⟨by kernel_rfl, fun u hu => by kernel_rfl⟩) hHeld ?_
            simp only [Act.put, List.setIfInBounds_toArray, List.set_cons_zero, List.set_cons_succ]
            refine go_take 7 56 _ undef rfl (by kernel_rfl) (by kernel_rfl) (by kernel_rfl) (by kernel_rfl) (fun _ _ _ h => h) (Or.inr ⟨by kernel_rfl, rfl⟩) hHeld ?_
            simp only [Act.put, List.setIfInBounds_toArray, List.set_cons_zero, List.set_cons_succ]
            refine go_take 8 57 _ undef rfl (by kernel_rfl) (by kernel_rfl) (by kernel_rfl) (by kernel_rfl) (fun _ _ _ h => h) (Or.inr ⟨by kernel_rfl, rfl⟩) hHeld ?_
            simp only [Act.put, List.setIfInBounds_toArray, List.set_cons_zero, List.set_cons_succ]
            refine go_take 9 58 _ undef rfl (by kernel_rfl) (by kernel_rfl) (by kernel_rfl) (by kernel_rfl) (fun _ _ _ h => h) (Or.inr ⟨by kernel_rfl, rfl⟩) hHeld ?_
            simp only [Act.put, List.setIfInBounds_toArray, List.set_cons_zero, List.set_cons_succ]
            refine go_none 10 59 _ rfl (by kernel_rfl) (by kernel_rfl) (by kernel_rfl) hHeld ?_
            simp only [Act.put, List.setIfInBounds_toArray, List.set_cons_zero, List.set_cons_succ]
            refine go_take 11 60 _ undef rfl (by kernel_rfl) (by kernel_rfl) (by kernel_rfl) (by kernel_rfl) (fun _ _ _ h => h) (Or.inr ⟨by kernel_rfl, rfl⟩) hHeld ?_
            simp only [Act.put, List.setIfInBounds_toArray, List.set_cons_zero, List.set_cons_succ]
            refine go_take 12 61 _ undef rfl (by kernel_rfl) (by kernel_rfl) (by kernel_rfl) (by kernel_rfl) (fun _ _ _ h => h) (Or.inr ⟨by kernel_rfl, rfl⟩) hHeld ?_
            simp only [Act.put, List.setIfInBounds_toArray, List.set_cons_zero, List.set_cons_succ]
            refine go_take 13 62 _ (.bool true) rfl (by kernel_rfl) (by kernel_rfl) (by kernel_rfl) (by kernel_rfl) (fun _ _ _ h => h) (Or.inl ⟨by kernel_rfl, fun u hu => by kernel_rfl⟩) hHeld ?_
            simp only [Act.put, List.setIfInBounds_toArray, List.set_cons_zero, List.set_cons_succ]
            refine wpAnyH_done (by kernel_rfl) ?_ _
            refine NoPanic.normal ?_
            go_wp2_with fail
            go_meet
            case rel => exact ⟨rfl, hHeld⟩
        case rest =>
          obtain ⟨rfl, hlow⟩ := hcut
          obtain ⟨x0, x1, x2, x3, x4⟩ := hx4 _ hlow
          have hv5 := HMk.keep hv4 hlow (Nat.le_refl _)
          have hBf := hB04.trans (hlow.mono hB04.size)
          have HAB := HCB
          cases cb with
          | true =>
            have HE2 : Hid (r = 120) := (by
              show _ = _
              rw [← HE.out, if_pos (of_decide_eq_true HCB.out)])
            clear HE HCB HAB
            go_wp2
            go_ret
            exact ⟨ret_int HE2.out.symm, hBf⟩
          | false =>
            have HE2 : Hid ((if ls.all (fun m => decide (m.sg = 32)) = true then (50 : Int) else 0) = r) := (by
              show _ = _
              rw [← HE.out, if_neg (of_decide_eq_false HCB.out)])
            clear HE HCB HAB hx4 hxx
            go_wp2
            generalize hwc : wc = W5 at *
            clear hwc
            go_loopw [3] (fun iv wr => ∃ (k : Nat), k ≤ ls.length ∧ iv = .int .i64 (k : Int) ∧ wr = W5 ∧ Hid ((if (ls.drop k).all (fun m => decide (m.sg = 32)) = true then (50 : Int) else 0) = r)) (fun iv _ => ls.length - (intOf iv).toNat)
            case atStart => exact ⟨0, Nat.zero_le _, by go_num, rfl, HE2⟩
            case round =>
              obtain ⟨k, hk, rfl, rfl, HI⟩ := hrel
              by_cases hlt : k < ls.length
              · obtain ⟨b, off, rfl, hb, hc⟩ := HMk.at hv5 (by omega)
                obtain ⟨c0, c1⟩ := hc k hlt
                obtain ⟨m, hm⟩ : ∃ m, ls[k] = m := ⟨_, rfl⟩
                rw [hm] at c0 c1
                have HI2 : Hid ((if (decide (m.sg = 32) && (ls.drop (k + 1)).all (fun m => decide (m.sg = 32))) = true then (50 : Int) else 0) = r) := (by
                  show _ = _
                  rw [← HI.out, List.drop_eq_getElem_cons hlt, hm]
                  rfl)
                obtain ⟨s, tx⟩ := m
                dsimp only at c0 c1 HI2
                clear HI hm hc c1
                have i1 : 0 ≤ (k : Int) := by omega
                have i2 : (k : Int) < (ls.length : Int) := by omega
                by_cases h0 : s = 32
                · subst h0
                  have HI3 : Hid ((if (ls.drop (k + 1)).all (fun m => decide (m.sg = 32)) = true then (50 : Int) else 0) = r) := (by
                    show _ = _
                    rw [← HI2.out]
                    rfl)
                  clear HI2 HE2
                  go_wp2
                  exact ⟨⟨k + 1, by omega, by go_num, trivial, HI3⟩, by simp [intOf]; omega⟩
                · have e0 : (s != 32) = true := by simpa using h0
                  have HI3 : Hid (r = 0) := (by
                    show _ = _
                    rw [← HI2.out]
                    simp [h0])
                  clear HI2 HE2
                  go_wp2
                  go_ret
                  exact ⟨ret_int HI3.out.symm, hBf⟩
              · have HI3 : Hid (r = 50) := (by
                  show _ = _
                  rw [← HI.out, List.drop_of_length_le (by omega)]
                  rfl)
                have hend : decide ((k : Int) < (ls.length : Int)) = false := decide_eq_false (by omega)
                clear HI HE2
                go_wp2
                go_ret
                exact ⟨ret_int HI3.out.symm, hBf⟩
end Go.Proofs.YtgcccpmcbjfaaaaDoor

/- The reference's Order of layer 11, walked. -/
namespace Go.Proofs.YtgcccpmcbjfaaaaDoor
open Go.RowKit

/-- hunks of lengths that can be gone through -/
def HOk (p : List (Hk × Value)) : Prop := p.length ≤ 1099511627776 ∧ ∀ x ∈ p, x.1.ls.length ≤ 1099511627776 ∧ ∀ m ∈ x.1.ls, m.tx.length ≤ 1099511627776
/-- a hunk of a row, read -/
theorem HHp.take {w W : World} {b off n c : Nat} {p : List (Hk × Value)} (h : HHp w (.slice (some ⟨b, off, none⟩) n c) p) (hB : Below w.heap.size w W) (k : Nat) (hk : k < p.length) {x : Hk} {y : Value} (hx : p[k] = (x, y)) : (W.cell? ⟨b, off + k * 5, none⟩ = some (.int .i64 x.A) ∧ W.cell? ⟨b, off + k * 5 + 1, none⟩ = some (.int .i64 x.AN) ∧ W.cell? ⟨b, off + k * 5 + 2, none⟩ = some (.int .i64 x.B) ∧ W.cell? ⟨b, off + k * 5 + 3, none⟩ = some (.int .i64 x.BN) ∧ W.cell? ⟨b, off + k * 5 + 4, none⟩ = some y) ∧ HMk W y x.ls := by
  have h2 := h.keep hB (Nat.le_refl _)
  obtain ⟨b', off', e, _, hc⟩ := h2.at (by omega)
  cases e
  have := hc k hk
  rw [hx] at this
  refine ⟨this, ?_⟩
  have hi := h2.ins p[k] (List.getElem_mem hk)
  rw [hx] at hi
  exact hi
theorem errs_drop {l : List Hk} {k : Nat} (hk : k < l.length) : errs (l.drop k) = if chkH l[k] ≠ 0 then chkH l[k] else errs (l.drop (k + 1)) := by
  rw [List.drop_eq_getElem_cons hk]
  rfl
theorem ord_ok {l : List Hk} (h : errs l = 0) : ordH l = if ordB 0 0 l = true then 0 else 121 := by
  unfold ordH
  rw [h]
  simp
theorem ord_err {l : List Hk} {z : Int} (h : errs l = z) (hz : z ≠ 0) : ordH l = z := by
  unfold ordH
  rw [h, if_pos hz]
theorem errs_ok {l : List Hk} (h : errs l = 0) : ∀ x ∈ l, chkH x = 0 := by
  induction l with
  | nil => intro x hx; cases hx
  | cons y l ih =>
    simp only [errs] at h
    by_cases hy : chkH y ≠ 0
    · rw [if_pos hy] at h
      exact absurd h hy
    · rw [if_neg hy] at h
      intro x hx
      rcases List.mem_cons.1 hx with rfl | hx
      · simpa using hy
      · exact ih h x hx
/-- the numbers of a right hunk -/
theorem chk_num {h : Hk} (hc : chkH h = 0) : (0 ≤ h.A ∧ h.A ≤ 2147483647) ∧ (0 ≤ h.AN ∧ h.AN ≤ 2147483647) ∧ (0 ≤ h.B ∧ h.B ≤ 2147483647) ∧ (0 ≤ h.BN ∧ h.BN ≤ 2147483647) := by
  have hr : rngB h = true := by
    cases hq : rngB h with
    | true => rfl
    | false => simp [chkH, hq] at hc
  simp only [rngB, Bool.and_eq_true, nat31, decide_eq_true_eq] at hr
  omega
theorem at_num {h : Hk} (hc : chkH h = 0) : (-1 ≤ atA h ∧ atA h ≤ 2147483647) ∧ (-1 ≤ atB h ∧ atB h ≤ 2147483647) := by
  have := chk_num hc
  unfold atA atB
  split <;> split <;> omega

end Go.Proofs.YtgcccpmcbjfaaaaDoor

/- The reference's Same, SameHunks of layer 11, walked: hunks that are the same. -/
namespace Go.Proofs.YtgcccpmcbjfaaaaDoor
open Go.RowKit

set_option maxHeartbeats 4000000 in
theorem rSame_f (h : Hk) (v1 v2 : Value) (w : World) (hv1 : HMk w v1 h.ls) (hv2 : HMk w v2 h.ls) (hl : h.ls.length ≤ 1099511627776) : Calls Tryd.prog 47 #[hkV h v1, hkV h v2] w fun e w' => e = .returned (.bool true) ∧ Below w.heap.size w w' := by
  obtain ⟨A, AN, B, BN, ls⟩ := h
  dsimp only at hv1 hv2 hl
  obtain ⟨o1, c1, rfl⟩ := HMk.form hv1
  obtain ⟨o2, c2, rfl⟩ := HMk.form hv2
  have hx1 := Hx.new w ⟨A, AN, B, BN, ls⟩ (.slice o1 ls.length c1)
  have hB1 : Below w.heap.size w (w.alloc (hkO ⟨A, AN, B, BN, ls⟩ (.slice o1 ls.length c1))) := (Below.refl _ w).alloc (Nat.le_refl _) _
  have hx2 : Hx ((w.alloc (hkO ⟨A, AN, B, BN, ls⟩ (.slice o1 ls.length c1))).alloc (hkO ⟨A, AN, B, BN, ls⟩ (.slice o2 ls.length c2))) (w.heap.size + 1) ⟨A, AN, B, BN, ls⟩ (.slice o2 ls.length c2) := alloc_second w _ _
  have hB2 : Below w.heap.size w ((w.alloc (hkO ⟨A, AN, B, BN, ls⟩ (.slice o1 ls.length c1))).alloc (hkO ⟨A, AN, B, BN, ls⟩ (.slice o2 ls.length c2))) := hB1.alloc (by simp) _
  have hx1' := hx1.low ((Below.refl _ (w.alloc (hkO ⟨A, AN, B, BN, ls⟩ (.slice o1 ls.length c1)))).alloc (Nat.le_refl _) (hkO ⟨A, AN, B, BN, ls⟩ (.slice o2 ls.length c2)))
  have hm1 := HMk.keep hv1 hB2 (Nat.le_refl _)
  have hm2 := HMk.keep hv2 hB2 (Nat.le_refl _)
  obtain ⟨x0, x1, x2, x3, x4⟩ := hx1'.cells
  obtain ⟨y0, y1, y2, y3, y4⟩ := hx2.cells
  unfold hkV
  dsimp only at x0 x1 x2 x3 x4 y0 y1 y2 y3 y4 ⊢
  have hW0 : (w.alloc (hkO ⟨A, AN, B, BN, ls⟩ (.slice o1 ls.length c1))).alloc (hkO ⟨A, AN, B, BN, ls⟩ (.slice o2 ls.length c2)) = (w.alloc (Obj.cells #[Value.int IntKind.i64 A, Value.int IntKind.i64 AN, Value.int IntKind.i64 B, Value.int IntKind.i64 BN, .slice o1 ls.length c1] 44)).alloc (Obj.cells #[Value.int IntKind.i64 A, Value.int IntKind.i64 AN, Value.int IntKind.i64 B, Value.int IntKind.i64 BN, .slice o2 ls.length c2] 44) := rfl
  clear hx1 hx2 hx1' hB1 hv1 hv2
  generalize (w.alloc (hkO ⟨A, AN, B, BN, ls⟩ (.slice o1 ls.length c1))).alloc (hkO ⟨A, AN, B, BN, ls⟩ (.slice o2 ls.length c2)) = W at *
  have hW := hW0.symm
  clear hW0
  go_enter Tryd.func47, Tryd.ntmps47
  go_wp2
  clear hW
  go_loopw [5] (fun iv wr => ∃ k m : Nat, k ≤ ls.length ∧ iv = .int .i64 (k : Int) ∧ wr = W.drewN m) (fun iv _ => ls.length - (intOf iv).toNat)
  case atStart => exact ⟨0, 0, Nat.zero_le _, by go_num, rfl⟩
  case round =>
    obtain ⟨k, m, hk, rfl, rfl⟩ := hrel
    have x4' : (W.drewN m).cell? ⟨w.heap.size, 4, none⟩ = some (.slice o1 ls.length c1) := x4
    have y4' : (W.drewN m).cell? ⟨w.heap.size + 1, 4, none⟩ = some (.slice o2 ls.length c2) := y4
    by_cases hlt : k < ls.length
    · obtain ⟨b1, f1, rfl, _, hc1⟩ := HMk.at hm1 (by omega)
      obtain ⟨b2, f2, rfl, _, hc2⟩ := HMk.at hm2 (by omega)
      obtain ⟨s0, s1⟩ := hc1 k hlt
      obtain ⟨t0, t1⟩ := hc2 k hlt
      obtain ⟨q, hq⟩ : ∃ q, ls[k] = q := ⟨_, rfl⟩
      rw [hq] at s0 s1 t0 t1
      obtain ⟨sg, tx⟩ := q
      dsimp only at s0 s1 t0 t1
      clear hc1 hc2 hq
      have i1 : 0 ≤ (k : Int) := by omega
      have i2 : (k : Int) < (ls.length : Int) := by omega
      go_wp2_with fail
      go_quiet (fail)
      go_wp2
      go_roundw
      case rel => exact ⟨k + 1, _, by omega, by go_num, rfl⟩
      case measure => simp [intOf]; omega
    · have hend : decide ((k : Int) < (ls.length : Int)) = false := decide_eq_false (by omega)
      go_wp2
      go_ret
      exact ⟨rfl, Below.dN hB2 _⟩
end Go.Proofs.YtgcccpmcbjfaaaaDoor
