/-
  Texts that belong together, joined: Kit.
-/
import Derived.Lib.FrozenHead2
import Derived.Lib.OthersKept
import Derived.Laws.IdiomStrings
import Derived.Deep.RegionLaw
import Derived.WalkKit
import Derived.WalkSmall

/- Laws of no program: append onto a row that the call owns, with the place of the new row told; a builder whose buffer is named. -/
namespace Go.Proofs.YtgiojkhmkeocfaaDoor
open Go.RowKit

theorem ret_bool {a b : Bool} (h : a = b) : Ending.returned (.bool a) = .returned (.bool b) := by rw [h]
theorem ret_int {k : IntKind} {a b : Int} (h : a = b) : Ending.returned (.int k a) = .returned (.int k b) := by rw [h]

section
variable {P : Program} (w : World)

/-- The append law behind a frozen head, and where the row lies behind it: where it lay, or in a new block. -/
theorem run_append_ownX (base : Nat) (t ty e : TypeId) (i : TypeInfo) (z : Value) (size bytes : Nat) (ht : P.underlying t = some (.slice e)) (hi : P.info? e = some i) (hz : i.zero = some z)
    (hsize : i.size = size) (hby : i.bytes = bytes) (hzs : z.cells.size = size) (hsz : 0 < size)
    (v : Value) (n : Nat) (xs : List Value) (hown : w.ownsRowF base e size v n xs)
    (a : Addr) (m c : Nat) (news : List Value) (hl : news.length = m * size) (hnews : ∀ j u, news[j]? = some u → w.cell? (a.add j) = some u) (h1 : ∀ u ∈ news, u.oneCell' = true)
    (h63 : n + m ≤ maxLen) (hbytes : (n + m) * bytes ≤ 140737488355328) (hbase : base ≤ w.heap.size) :
    ∃ v' w', (Builtin.append_ #[t, t] ty #[v, .slice (some a) m c]).run P w = .ok v' w' ∧ w'.ownsRowF base e size v' (n + m) (xs ++ news) ∧ w.grownBy w' v.ownBlock ∧
      (v'.ownBlock = v.ownBlock ∨ ∃ g, v'.ownBlock = some g ∧ w.heap.size ≤ g) := by
  rcases hown.2 with ⟨rfl, rfl⟩ | ⟨g, cap, cur, fz, rfl, hbg, hg, hfz, hnc, hcm, hcs, htake⟩
  · obtain ⟨v', w', r1, r2, r3, r4⟩ := run_append_own (P := P) w w.heap.size t ty e i z size bytes ht hi hz hsize hby hzs hsz (.slice none 0 0) 0 xs ⟨hown.1, .inl ⟨rfl, rfl⟩⟩ a m c news hl hnews h1 h63 hbytes (Nat.le_refl _)
    have r5 := World.ownsRowF_of r2
    refine ⟨v', w', r1, ⟨r5.1, ?_⟩, r3, ?_⟩
    · rcases r5.2 with h | ⟨g, cap, cur, fz, q1, q2, q3⟩
      · exact .inl h
      · exact .inr ⟨g, cap, cur, fz, q1, by omega, q3⟩
    · rcases r5.2 with ⟨h, _⟩ | ⟨g, cap, cur, fz, q1, q2, q3⟩
      · exact .inl (by rw [h])
      · exact .inr ⟨g, by rw [q1]; rfl, q2⟩
  · subst hsize
    subst hby
    have hsmall : n + m ≤ 9223372036854775807 := by simp only [maxLen] at h63; omega
    have hlen : (xs ++ news).length = (n + m) * i.size := by rw [List.length_append, hown.1, hl, Nat.add_mul]
    by_cases hroom : n + m ≤ cap
    · have hfit : n * i.size + news.length ≤ cur.size := by rw [hl, hcs, ← Nat.add_mul]; exact Nat.mul_le_mul_right _ hroom
      have hr := run_append_roomF (P := P) w t ty e i ht hi g n cap cur fz hg hfz a m c news hl hnews h1 hroom hfit
      refine ⟨_, _, hr, ⟨hlen, .inr ⟨g, cap, _, fz, rfl, hbg, setRow_heap w g cur _ e _ hg, Nat.le_trans hfz (Nat.mul_le_mul_right _ (Nat.le_add_right n m)), hroom, hcm, ?_, ?_⟩⟩, ⟨rfl, rfl, rfl, by simp, fun k _ hk => setRow_other w g k _ (fun e => hk (by simp [Value.ownBlock, e]))⟩, .inl rfl⟩
      · simp only [List.size_toArray, List.length_append, List.length_take, List.length_drop, Array.length_toList]
        omega
      · rw [htake, ← hlen]
        exact List.take_left
    · have holds : ∀ j u, xs[j]? = some u → w.cell? ((⟨g, 0, none⟩ : Addr).add j) = some u := hown.cells (g := g) rfl
      have hr := run_append_grow (P := P) w t ty e i z ht hi hz ⟨g, 0, none⟩ n cap xs hown.1 holds a m c news hl hnews (by omega) (by omega) (growslice_fits (by omega) hbytes)
      have hge := grownCap_ge w (n + m) cap e
      have hcm2 : grownCap w (n + m) cap e ≤ maxLen := grownCap_le_maxLen w (n + m) cap e h63
      refine ⟨_, _, hr, ⟨hlen, .inr ⟨w.heap.size, _, _, (0, 0), rfl, hbase, heap_alloc_new w.drew _, Nat.zero_le _, hge, hcm2, ?_, ?_⟩⟩, ⟨rfl, rfl, rfl, by simp, fun k hk _ => Below.heap_alloc w.drew _ k hk⟩, .inr ⟨_, rfl, Nat.le_refl _⟩⟩
      · simp only [Array.size_append, List.size_toArray, size_zeroCells, hzs, hown.1, hl, ← Nat.add_mul]
        congr 1
        omega
      · simp only [Array.toList_append, List.append_assoc]
        rw [← List.append_assoc, ← hlen]
        exact List.take_left

theorem wpList_append_ownX {ops : Array Oper} {rest : List Oper} {o : Oper} {a : Act} {Q : Exit → Act → World → Prop} (hgd : o.guard = none) (s x : Operand) (t : TypeId)
    (ho : o.op = .call { callee := .builtin .append, args := #[s, x], argTypes := #[t, t] })
    (base : Nat) (e : TypeId) (i : TypeInfo) (z : Value) (size bytes : Nat) (ht : P.underlying t = some (.slice e)) (hi : P.info? e = some i) (hz : i.zero = some z)
    (hsize : i.size = size) (hby : i.bytes = bytes) (hzs : z.cells.size = size) (hsz : 0 < size)
    (v : Value) (n : Nat) (xs : List Value) (hs : a.eval s = v) (hown : w.ownsRowF base e size v n xs)
    (ad : Addr) (m c : Nat) (news : List Value) (hx : a.eval x = .slice (some ad) m c) (hl : news.length = m * size) (hnews : ∀ j u, news[j]? = some u → w.cell? (ad.add j) = some u) (h1 : ∀ u ∈ news, u.oneCell' = true)
    (h63 : n + m ≤ maxLen) (hbytes : (n + m) * bytes ≤ 140737488355328) (hbase : base ≤ w.heap.size)
    (h : ∀ v' w', w'.ownsRowF base e size v' (n + m) (xs ++ news) → w.grownBy w' v.ownBlock → (v'.ownBlock = v.ownBlock ∨ ∃ g, v'.ownBlock = some g ∧ w.heap.size ≤ g) → wpList P ops Q rest (a.put o.dst v') w') : wpList P ops Q (o :: rest) a w := by
  refine wpList_plain hgd fun K hK => ?_
  obtain ⟨v', w', hr, h2, h3, h4⟩ := run_append_ownX (P := P) w base t o.type e i z size bytes ht hi hz hsize hby hzs hsz v n xs hown ad m c news hl hnews h1 h63 hbytes hbase
  unfold Oper.wp execOp
  simp only [ho, resolve, invoke, builtin, Sem.run_bind, Sem.run_pure, Result.andThen_ok, List.map_toArray, List.map_cons, List.map_nil, hs, hx, hr]
  exact hK _ _ (h v' w' h2 h3 h4)
end

/-- A builder (type T, bytes of type e) in block b whose buffer is the slice v and holds bs; nothing of it lies below B. -/
def Bld (T e : TypeId) (B b : Nat) (v : Value) (bs : List Value) (w : World) : Prop :=
  B ≤ b ∧ (∃ p, (p = .pointer none ∨ p = .pointer (some ⟨b, 0, none⟩)) ∧ w.heap[b]? = some (.cells #[p, v] T (0, 0))) ∧ w.ownsRowF B e 1 v bs.length bs ∧ v.ownBlock ≠ some b

theorem Bld.isF {T e : TypeId} {B b : Nat} {v : Value} {bs : List Value} {w : World} (h : Bld T e B b v bs w) : Lib.IsBuilderF T e B b bs w := by
  obtain ⟨hB, ⟨p, hp, hb⟩, hown, hne⟩ := h
  rcases hp with rfl | rfl
  · exact .inl ⟨hB, v, hb, hown, hne⟩
  · exact .inr ⟨hB, v, hb, hown, hne⟩

theorem Bld.lt {T e : TypeId} {B b : Nat} {v : Value} {bs : List Value} {w : World} (h : Bld T e B b v bs w) : b < w.heap.size := by
  obtain ⟨_, ⟨p, _, hb⟩, _⟩ := h
  exact (Array.getElem?_eq_some_iff.1 hb).1

/-- what a builder's writer leaves as it was: all but its own block and its buffer's -/
def Aside (b : Nat) (v : Value) (w w' : World) : Prop := ∀ k, k < w.heap.size → k ≠ b → v.ownBlock ≠ some k → w'.heap[k]? = w.heap[k]?

/-- a buffer stays where it was, or lies in a new block -/
def Fresh (v v' : Value) (w : World) : Prop := v'.ownBlock = v.ownBlock ∨ ∃ g, v'.ownBlock = some g ∧ w.heap.size ≤ g

theorem Bld.kept {T e : TypeId} {B b : Nat} {v : Value} {bs : List Value} {w w' : World} (h : Bld T e B b v bs w) (hk : ∀ k, k < w.heap.size → w'.heap[k]? = w.heap[k]?) : Bld T e B b v bs w' := by
  have hlt := h.lt
  obtain ⟨hB, ⟨p, hp, hb⟩, ⟨hl, hown⟩, hne⟩ := h
  refine ⟨hB, ⟨p, hp, (hk b hlt).trans hb⟩, ⟨hl, ?_⟩, hne⟩
  rcases hown with h | ⟨g, cap, cur, fz, q1, q2, q3, q4⟩
  · exact .inl h
  · exact .inr ⟨g, cap, cur, fz, q1, q2, (hk g (Array.getElem?_eq_some_iff.1 q3).1).trans q3, q4⟩

theorem Bld.alloc {T e : TypeId} {B b : Nat} {v : Value} {bs : List Value} {w : World} (h : Bld T e B b v bs w) (o : Obj) : Bld T e B b v bs (w.alloc o) :=
  h.kept fun k hk => Below.heap_alloc w o k hk

theorem Bld.fresh (T e : TypeId) (w : World) : Bld T e w.heap.size w.heap.size (.slice none 0 0) [] (w.alloc (.cells #[.pointer none, .slice none 0 0] T)) :=
  ⟨Nat.le_refl _, ⟨_, .inl rfl, _root_.Go.heap_alloc_new w _⟩, World.ownsRowF_nil _ _ _ _, by simp [Value.ownBlock]⟩

/-- a new buffer is laid into a builder -/
theorem Bld.put {T e : TypeId} {B b : Nat} {p v v' : Value} {bs : List Value} {w : World} (hB : B ≤ b) (hp : p = .pointer none ∨ p = .pointer (some ⟨b, 0, none⟩)) (hb : w.heap[b]? = some (.cells #[p, v] T (0, 0))) (hown : w.ownsRowF B e 1 v' bs.length bs) (hTe : T ≠ e) :
    Bld T e B b v' bs (w.setCell ⟨b, 1, none⟩ v') := by
  have hne : v'.ownBlock ≠ some b := by
    intro h
    rcases hown.2 with ⟨h1, _⟩ | ⟨g, cap, cur, fz, q1, q2, q3, q4⟩
    · rw [h1] at h; cases h
    · rw [q1] at h
      have hg : g = b := by simpa [Value.ownBlock] using h
      rw [hg, hb] at q3
      simp only [Option.some.injEq, Obj.cells.injEq] at q3
      exact hTe q3.2.1
  have ho : ∀ k, k ≠ b → (w.setCell ⟨b, 1, none⟩ v').heap[k]? = w.heap[k]? := fun k hk => Below.heap_setCell w _ _ k hk
  refine ⟨hB, ⟨p, hp, ?_⟩, ⟨hown.1, ?_⟩, hne⟩
  · simp only [World.setCell, Array.getElem?_modify, hb]
    simp
  · rcases hown.2 with h | ⟨g, cap, cur, fz, q1, q2, q3, q4⟩
    · exact .inl h
    · exact .inr ⟨g, cap, cur, fz, q1, q2, (ho g (fun e => hne (by rw [q1, e]; rfl))).trans q3, q4⟩

/-- a block beside a builder: neither the builder's nor its buffer's -/
def Beside (R : Nat) (o : Obj) (b : Nat) (v : Value) (w : World) : Prop := w.heap[R]? = some o ∧ R ≠ b ∧ v.ownBlock ≠ some R

theorem Beside.step {R : Nat} {o : Obj} {b : Nat} {v v' : Value} {w w' : World} (h : Beside R o b v w) (ha : Aside b v w w') (hf : Fresh v v' w) : Beside R o b v' w' := by
  obtain ⟨h1, h2, h3⟩ := h
  have hlt : R < w.heap.size := (Array.getElem?_eq_some_iff.1 h1).1
  refine ⟨(ha R hlt h2 h3).trans h1, h2, ?_⟩
  rcases hf with h | ⟨g, h, hg⟩
  · rw [h]; exact h3
  · rw [h]; intro e; simp at e; omega

theorem Beside.cell {R : Nat} {C : Array Value} {t : TypeId} {fz : Nat × Nat} {b : Nat} {v : Value} {w : World} (h : Beside R (.cells C t fz) b v w) (j : Nat) : w.cell? ⟨R, j, none⟩ = C[j]? := by
  rw [cell_of_row w R j C t fz h.1]

/-- what a text's bytes lie in -/
theorem conv_bytes {P : Program} (w : World) (src dst e : TypeId) (l : List UInt8) (hs : P.underlying src = some .string) (hd : P.underlying dst = some (.slice e)) (he : P.underlying e = some (.int .u8)) :
    ∃ cap C fz w', (convert src dst (.string ⟨l.toArray⟩)).run P w = .ok (.slice (some ⟨w.heap.size, 0, none⟩) l.length cap) w' ∧ w'.heap[w.heap.size]? = some (.cells C e fz) ∧ (∀ j (h : j < l.length), C[j]? = some (.int .u8 (l[j].toNat : Int))) ∧ Below w.heap.size w w' ∧ w.heap.size < w'.heap.size := by
  refine ⟨_, _, _, _, run_bytes_of_string w src dst e ⟨l.toArray⟩ hs hd he, _root_.Go.heap_alloc_new w.drew _, ?_, ((Below.refl _ w).drew).alloc (Nat.le_refl _) _, by simp⟩
  intro j hj
  unfold bytesRow
  rw [Array.getElem?_append_left (by simpa using hj)]
  simp [hj]

theorem below_all {w w' : World} (h : Below w.heap.size w w') : ∀ k, k < w.heap.size → w'.heap[k]? = w.heap[k]? := h.block

/-- the append law behind a frozen head, as one step of a region that draws its order -/
theorem step_append_ownX {P : Program} {ops : Array Oper} {o : Oper} {a : Act} {w : World} {K : Act → World → Prop} {Q : Exit → Act → World → Prop} {E : Prop}
    (hgd : o.guard = none) (s x : Operand) (t : TypeId) (ho : o.op = .call { callee := .builtin .append, args := #[s, x], argTypes := #[t, t] })
    (base : Nat) (e : TypeId) (i : TypeInfo) (z : Value) (size bytes : Nat) (ht : P.underlying t = some (.slice e)) (hi : P.info? e = some i) (hz : i.zero = some z)
    (hsize : i.size = size) (hby : i.bytes = bytes) (hzs : z.cells.size = size) (hsz : 0 < size)
    (v : Value) (n : Nat) (xs : List Value) (hs : a.eval s = v) (hown : w.ownsRowF base e size v n xs)
    (ad : Addr) (m c : Nat) (news : List Value) (hx : a.eval x = .slice (some ad) m c) (hl : news.length = m * size) (hnews : ∀ j u, news[j]? = some u → w.cell? (ad.add j) = some u) (h1 : ∀ u ∈ news, u.oneCell' = true)
    (h63 : n + m ≤ maxLen) (hbytes : (n + m) * bytes ≤ 140737488355328) (hbase : base ≤ w.heap.size)
    (h : ∀ v' w', w'.ownsRowF base e size v' (n + m) (xs ++ news) → w.grownBy w' v.ownBlock → (v'.ownBlock = v.ownBlock ∨ ∃ g, v'.ownBlock = some g ∧ w.heap.size ≤ g) → K (a.put o.dst v') w') :
    if Region.wanted o (yielded ops a.tmps) = true then Oper.wp P o a w K Q else E := by
  have hw : Region.wanted o (yielded ops a.tmps) = true := by simp [Region.wanted, hgd]
  rw [if_pos hw]
  obtain ⟨v', w', hr, h2, h3, h4⟩ := run_append_ownX (P := P) w base t o.type e i z size bytes ht hi hz hsize hby hzs hsz v n xs hown ad m c news hl hnews h1 h63 hbytes hbase
  unfold Oper.wp
  simp [execOp, ho, resolve, invoke, builtin, hs, hx, hr, Result.andThen]
  exact h v' w' h2 h3 h4

/-- cells of a new block, by their list -/
theorem new_cells (w : World) (C : List Value) (t : TypeId) : ∀ j u, C[j]? = some u → (w.alloc (.cells C.toArray t)).cell? ((⟨w.heap.size, 0, none⟩ : Addr).add j) = some u := by
  intro j u hj
  have hadd : (⟨w.heap.size, 0, none⟩ : Addr).add j = ⟨w.heap.size, j, none⟩ := by unfold Addr.add; split <;> simp_all
  rw [hadd, cell_of_row _ w.heap.size j C.toArray t (0, 0) (_root_.Go.heap_alloc_new w _)]
  simpa using hj

/-- the text of a row of bytes that the call owns -/
theorem conv_string {P : Program} (w : World) (src dst e : TypeId) (B : Nat) (v : Value) (l : List UInt8) (hs : P.underlying src = some (.slice e)) (he : P.underlying e = some (.int .u8)) (hd : P.underlying dst = some .string)
    (h : w.ownsRowF B e 1 v l.length (Lib.byteCells l)) : (convert src dst v).run P w = .ok (.string ⟨l.toArray⟩) w := by
  rcases h.2 with ⟨rfl, h0⟩ | ⟨g, cap, cur, fz, rfl, _⟩
  · have : l = [] := List.eq_nil_of_length_eq_zero h0
    subst this
    rw [run_convert_bytes_string w src dst e none 0 0 hs he hd]
    rfl
  · refine run_convert_bytes_back w src dst e ⟨g, 0, none⟩ cap l hs he hd ?_
    intro j hj
    exact h.cells (g := g) rfl j _ (by simp [Lib.byteCells, hj])

theorem ba_at (l : List UInt8) (k : Nat) (h : k < (⟨l.toArray⟩ : ByteArray).size) : (⟨l.toArray⟩ : ByteArray)[k]'h = l[k]'(h) := rfl

theorem one_cell (c : Int) (k : IntKind) : ∀ u ∈ [Value.int k c], u.oneCell' = true := by intro u hu; simp at hu; subst hu; rfl

theorem byteCells_snoc (l : List UInt8) (c : UInt8) : Lib.byteCells (l ++ [c]) = Lib.byteCells l ++ [.int .u8 (c.toNat : Int)] := by rw [Lib.byteCells_append]; rfl

theorem wrap_u8 {n : Int} (h0 : 0 ≤ n) (h1 : n < 256) : IntKind.u8.wrap n = n := by
  simp [IntKind.wrap, IntKind.bits, IntKind.signed]
  omega

theorem Bld.drewN {T e : TypeId} {B b : Nat} {v : Value} {bs : List Value} {w : World} (h : Bld T e B b v bs w) (n : Nat) : Bld T e B b v bs (w.drewN n) := h.kept fun _ _ => rfl

end Go.Proofs.YtgiojkhmkeocfaaDoor
