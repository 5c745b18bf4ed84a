/-
  What stands in memory while the lengths of rising rows are found; what a step of a round keeps.
-/
import Derived.Test.YtppdcjjkkckokaaPaRs
import Derived.Test.YtppdcjjkkckokaaPaRl
import Derived.Test.YtppdcjjkkckokaaPaRg
namespace Go.Proofs.Ytppdcjjkkckokaa
open Go.RowKit Go.Shelf
attribute [local go_sem] Oper.semAt_some

theorem infoHd : (Try.prog.info? 94).map (fun i => (i.zero, i.size, i.bytes)) = some (some (.slice none 0 0), 1, 24) := by kernel_rfl
/-- the lengths, as they are written from the end on: the latest first -/
def lz (n : Nat) : List (Nat × Pr) → List Int
  | [] => List.replicate n 0
  | x :: r => (lz n r).set x.1 ((mxl x.2 (r.map (·.2)) (rl (r.map (·.2))) + 1 : Nat) : Int)
theorem lz_length (n : Nat) (r : List (Nat × Pr)) : (lz n r).length = n := by
  induction r with
  | nil => simp [lz]
  | cons x r ih => simp [lz, ih]
theorem lz_en (n k : Nat) (l : List Pr) (hk : k + l.length = n) : ∀ j (hj : j < (rl l).length), (lz n (en k l))[k + j]? = some (((rl l)[j] : Nat) : Int) := by
  induction l generalizing k with
  | nil => intro j hj; simp [rl] at hj
  | cons p t ih =>
    intro j hj
    have hl := lz_length n (en (k + 1) t)
    have e : lz n (en k (p :: t)) = (lz n (en (k + 1) t)).set k ((mxl p t (rl t) + 1 : Nat) : Int) := by rw [en, lz, en_snd]
    rw [e]
    cases j with
    | zero =>
      have hk2 : k < (lz n (en (k + 1) t)).length := by rw [hl]; simp at hk; omega
      show ((lz n (en (k + 1) t)).set k ((mxl p t (rl t) + 1 : Nat) : Int))[k]? = _
      rw [List.getElem?_set_self hk2]
      rfl
    | succ j =>
      rw [List.getElem?_set_ne (by omega), show k + (j + 1) = k + 1 + j by omega]
      have := ih (k + 1) (by simp at hk; omega) j (by simpa [rl] using hj)
      simpa [rl] using this
theorem lz_all (l : List Pr) : lz l.length (en 0 l) = (rl l).map (fun (n : Nat) => (n : Int)) := by
  apply List.ext_getElem?
  intro j
  by_cases hj : j < (rl l).length
  · have := lz_en l.length 0 l (by omega) j hj
    rw [Nat.zero_add] at this
    rw [this]
    simp [hj]
  · rw [List.getElem?_eq_none (by rw [lz_length]; rw [rl_length] at hj; omega), List.getElem?_eq_none (by simpa using hj)]
/-- the state behind a round -/
structure Rs (w : World) (n : Nat) (r : List (Nat × Pr)) (va : Value) (vals : List Value) (H : List (List Pr)) (W : World) : Prop where
  low : Below w.heap.size w W
  lbox : Boxed W (w.heap.size + 1) 29 (.slice (some ⟨w.heap.size, 0, none⟩) n n)
  lrow : W.ownsRow w.heap.size 3 1 (.slice (some ⟨w.heap.size, 0, none⟩) n n) n (icells (lz n r))
  abox : Boxed W (w.heap.size + 1 + 1) 89 va
  al : Al W w.heap.size va vals H
  hd : Hds (r.map (·.2)) H
  hl : H.length ≤ r.length
  hh : ∀ h ∈ H, h.length ≤ r.length
theorem owns_kept_cells {W W' : World} {row : Option Nat} {base n : Nat} {e : TypeId} {s : Nat} {v : Value} {xs : List Value} (ho : W.ownsRow base e s v n xs) (hg : W.grownBy W' row) (hr : ∀ r, row = some r → ∃ o : Obj, W.heap[r]? = some o ∧ o.isCells = false) : W'.ownsRow base e s v n xs := by
  refine ho.kept hg ?_
  cases h : v.ownBlock with
  | none => exact .inl rfl
  | some g =>
    right
    intro q
    obtain ⟨cur, h1, _⟩ := owns_cells ho h
    obtain ⟨o, h2, h3⟩ := hr g q.symm
    rw [h1] at h2
    cases h2
    cases h3
theorem boxed_kept_cells {W W' : World} {row : Option Nat} {B : Nat} {t : TypeId} {v : Value} (h : Boxed W B t v) (hg : W.grownBy W' row) (hr : ∀ r, row = some r → ∃ o : Obj, W.heap[r]? = some o ∧ o.isCells = false) : Boxed W' B t v := by
  refine h.kept hg (fun q => ?_)
  obtain ⟨o, h2, h3⟩ := hr B q.symm
  unfold Boxed at h
  rw [h] at h2
  cases h2
  cases h3
theorem Rs.own {w : World} {n : Nat} {r : List (Nat × Pr)} {va : Value} {vals : List Value} {H : List (List Pr)} {W W' : World} (h : Rs w n r va vals H W) {row : Option Nat} (hg : W.grownBy W' row) (hr : ∀ r, row = some r → w.heap.size ≤ r ∧ ∃ o : Obj, W.heap[r]? = some o ∧ o.isCells = false) : Rs w n r va vals H W' :=
  ⟨h.low.grown hg h.low.size (fun j hj => (hr j hj).1), boxed_kept_cells h.lbox hg (fun r e => (hr r e).2), owns_kept_cells h.lrow hg (fun r e => (hr r e).2), boxed_kept_cells h.abox hg (fun r e => (hr r e).2),
    ⟨owns_kept_cells h.al.row hg (fun r e => (hr r e).2), h.al.len, fun m v k h1 h2 => owns_kept_cells (h.al.own m v k h1 h2) hg (fun r e => (hr r e).2), h.al.apart⟩, h.hd, h.hl, h.hh⟩
theorem Rs.keep {w : World} {n : Nat} {r : List (Nat × Pr)} {va : Value} {vals : List Value} {H : List (List Pr)} {W W' : World} (h : Rs w n r va vals H W) (hb : Low W W') : Rs w n r va vals H W' :=
  h.own (low_grown hb none) (fun r e => by cases e)

/-- whatever is written lies in a block of this kind -/
def Ty (W : World) (row : Option Nat) (e : TypeId) : Prop := ∀ g, row = some g → ∃ cur, W.heap[g]? = some (.cells cur e (0, 0))
theorem ty_row {W : World} {base n : Nat} {e : TypeId} {s : Nat} {v : Value} {xs : List Value} (ho : W.ownsRow base e s v n xs) : Ty W v.ownBlock e := fun g hg => by
  obtain ⟨cur, h, _⟩ := owns_cells ho hg
  exact ⟨cur, h⟩
section
variable {W W' : World} {row : Option Nat} {e : TypeId}
theorem bx_ty {B : Nat} {t : TypeId} {v : Value} (h : Boxed W B t v) (hg : W.grownBy W' row) (hy : Ty W row e) (hne : t ≠ e) : Boxed W' B t v := by
  refine h.kept hg (fun q => ?_)
  obtain ⟨cur, h2⟩ := hy B q.symm
  unfold Boxed at h
  rw [h] at h2
  cases h2
  exact hne rfl
theorem ow_ty {base n : Nat} {t : TypeId} {s : Nat} {v : Value} {xs : List Value} (h : W.ownsRow base t s v n xs) (hg : W.grownBy W' row) (hy : Ty W row e) (hne : t ≠ e) : W'.ownsRow base t s v n xs := by
  refine h.kept hg ?_
  cases hb : v.ownBlock with
  | none => exact .inl rfl
  | some g =>
    right
    intro q
    obtain ⟨cur, h1, _⟩ := owns_cells h hb
    obtain ⟨cur', h2⟩ := hy g q.symm
    rw [h1] at h2
    cases h2
    exact hne rfl
theorem al_ty {base : Nat} {va : Value} {vals : List Value} {H : List (List Pr)} (h : Al W base va vals H) (hg : W.grownBy W' row) (hy : Ty W row e) (h1 : 94 ≠ e) (h2 : 44 ≠ e) : Al W' base va vals H :=
  ⟨ow_ty h.row hg hy h1, h.len, fun n v k a b => ow_ty (h.own n v k a b) hg hy h2, h.apart⟩
theorem ko_ty (hg : W.grownBy W' row) (hy : Ty W row e) : KeepsOthers W W' := KeepsOthers.of_grownBy hg (fun j o ej hj => by
  obtain ⟨cur, h⟩ := hy j ej
  rw [h] at hj
  cases hj
  rfl)
theorem kq_ty {n₀ lo : Nat} {v : Value} (hb : Boxed W lo 41 v) (hn : n₀ ≤ W.heap.size) (hg : W.grownBy W' row) (hy : Ty W row e) (hne : 41 ≠ e) (hge : ∀ g, row = some g → n₀ ≤ g) : Kq n₀ lo W W' :=
  ⟨(Below.refl n₀ W).grown hg hn (fun j ej => hge j ej), (bx_ty hb hg hy hne).trans hb.symm⟩
end
theorem ko_low {W W' : World} (h : Low W W') : KeepsOthers W W' := ⟨Below.size h, fun k _ hk _ => (Below.block h k (Array.getElem?_eq_some_iff.1 hk).1).trans hk⟩
theorem kq_low {n₀ lo : Nat} {W W' : World} (hn : n₀ ≤ W.heap.size) (hl : lo < W.heap.size) (h : Low W W') : Kq n₀ lo W W' := ⟨Below.mono h hn, Below.block h lo hl⟩
theorem mxl_hd {t : List Pr} {H : List (List Pr)} (h : Hds t H) (p : Pr) : (∀ m, m < mxl p t (rl t) → Hd t m p) ∧ ¬ Hd t (mxl p t (rl t)) p ∧ mxl p t (rl t) ≤ H.length := by
  refine ⟨fun m hm => ?_, ?_, mxl_le p t (rl t) H.length h.top⟩
  · obtain ⟨k, q, g1, g2, g3⟩ := mxl_at p t (rl t) (by omega)
    have : Hd t (mxl p t (rl t) - 1) p := ⟨k, q, g1, by rw [g2]; congr 1; omega, g3⟩
    exact this.downs (by omega)
  · rintro ⟨k, q, g1, g2, g3⟩
    have := mxl_ge p t (rl t) k q _ g1 g2 g3
    omega
theorem ins_len (h : List Pr) (p : Pr) (hug : upto h p.X ≤ grt h p.Y) : (ins h p).length ≤ h.length + 1 := by
  unfold ins
  rw [List.length_append, List.length_cons, List.length_take, List.length_drop]
  have := upto_le h p.X
  omega

/-- the state within a round -/
structure Rp (w : World) (n : Nat) (Z : List Int) (va : Value) (vals : List Value) (H : List (List Pr)) (vl : Value) (W : World) : Prop where
  low : Below w.heap.size w W
  lbox : Boxed W (w.heap.size + 1) 29 (.slice (some ⟨w.heap.size, 0, none⟩) n n)
  lrow : W.ownsRow w.heap.size 3 1 (.slice (some ⟨w.heap.size, 0, none⟩) n n) n (icells Z)
  abox : Boxed W (w.heap.size + 1 + 1) 89 va
  al : Al W w.heap.size va vals H
  ibox : Boxed W (w.heap.size + 1 + 1 + 1) 41 vl
/-- what a step of a round keeps -/
structure Stp (w W W' : World) : Prop where
  ko : KeepsOthers W W'
  kq : Kq w.heap.size (w.heap.size + 1 + 1 + 1) W W'
theorem Stp.trans {w A B C : World} (h : Stp w A B) (k : Stp w B C) : Stp w A C := ⟨h.ko.trans k.ko, h.kq.trans k.kq⟩
section
variable {w : World} {n : Nat} {Z : List Int} {va : Value} {vals : List Value} {H : List (List Pr)} {vl : Value} {W W' : World}
theorem Rp.lo (h : Rp w n Z va vals H vl W) (hb : Low W W') : Rp w n Z va vals H vl W' ∧ Stp w W W' := by
  have hg := low_grown hb none
  have hy : ∀ e, Ty W none e := fun e g q => by cases q
  have h3 := h.ibox.lt
  exact ⟨⟨h.low.trans (Below.mono hb h.low.size), bx_ty h.lbox hg (hy 0) (by decide), ow_ty h.lrow hg (hy 0) (by decide), bx_ty h.abox hg (hy 0) (by decide), al_ty h.al hg (hy 0) (by decide) (by decide), bx_ty h.ibox hg (hy 0) (by decide)⟩, ko_low hb, kq_low h.low.size h3 hb⟩
/-- one list of heads is put in its place -/
theorem Rp.put {g k c m : Nat} {v1 v' : Value} {L : List Pr} {W4 : World} (h : Rp w n Z (.slice (some ⟨g, 0, none⟩) k c) vals H vl W) (hO : W.ownsRow w.heap.size 44 2 v1 (H[m]?.getD []).length (prcells (H[m]?.getD []))) (hv : vals[m]? = some v1) (hG : Grows w.heap.size W v1 v' L W4) :
    Rp w n Z (.slice (some ⟨g, 0, none⟩) k c) (vals.set m v') (H.set m L) vl (W4.setCell ⟨g, m, none⟩ v') ∧ Stp w W (W4.setCell ⟨g, m, none⟩ v') := by
  obtain ⟨g1, g2, g3⟩ := hG
  have y1 : Ty W v1.ownBlock 44 := ty_row hO
  have r4 := ow_ty h.al.row g2 y1 (by decide)
  have y2 : Ty W4 (some g) 94 := ty_row (v := .slice (some ⟨g, 0, none⟩) k c) r4
  have g5 : W4.grownBy (W4.setCell ⟨g, m, none⟩ v') (some g) := by
    rcases r4.2 with ⟨q, _⟩ | ⟨g', cap, cur, q, _⟩
    · cases q
    · cases q
      exact (r4.stored m v').2
  have i4 := bx_ty h.ibox g2 y1 (by decide)
  have hb1 : ∀ q, v1.ownBlock = some q → w.heap.size ≤ q := fun q hq => (owns_cells hO hq).choose_spec.2
  have hb2 : ∀ q, some g = some q → w.heap.size ≤ q := fun q hq => (owns_cells r4 (by rw [← hq]; rfl)).choose_spec.2
  have s4 := h.low.size
  have k1 := kq_ty h.ibox s4 g2 y1 (by decide) hb1
  have s5 : w.heap.size ≤ W4.heap.size := Nat.le_trans s4 g2.size
  have k2 := kq_ty i4 s5 g5 y2 (by decide) hb2
  refine ⟨⟨h.low.trans (k1.trans k2).low, bx_ty (bx_ty h.lbox g2 y1 (by decide)) g5 y2 (by decide), ow_ty (ow_ty h.lrow g2 y1 (by decide)) g5 y2 (by decide), bx_ty (bx_ty h.abox g2 y1 (by decide)) g5 y2 (by decide), h.al.set hv ⟨g1, g2, g3⟩, bx_ty i4 g5 y2 (by decide)⟩, (ko_ty g2 y1).trans (ko_ty g5 y2), k1.trans k2⟩
/-- a length is written -/
theorem Rp.write (h : Rp w n Z va vals H vl W) (i : Nat) (z : Int) : Rp w n (Z.set i z) va vals H vl (W.setCell ⟨w.heap.size, i, none⟩ (.int .i64 z)) ∧ Stp w W (W.setCell ⟨w.heap.size, i, none⟩ (.int .i64 z)) := by
  obtain ⟨p1, g1⟩ := h.lrow.stored i (.int .i64 z)
  have e : (icells Z).set i (.int .i64 z) = icells (Z.set i z) := by simp [icells, List.map_set]
  rw [e] at p1
  have y1 : Ty W (some w.heap.size) 3 := ty_row (v := .slice (some ⟨w.heap.size, 0, none⟩) n n) h.lrow
  have k1 := kq_ty h.ibox h.low.size g1 y1 (by decide) (fun q hq => by cases hq; exact Nat.le_refl _)
  exact ⟨⟨h.low.trans k1.low, bx_ty h.lbox g1 y1 (by decide), p1, bx_ty h.abox g1 y1 (by decide), al_ty h.al g1 y1 (by decide) (by decide), bx_ty h.ibox g1 y1 (by decide)⟩, ko_ty g1 y1, k1⟩
/-- one more list of heads, in its variable -/
theorem Rp.more {va' : Value} {w1 : World} (h : Rp w n Z va vals H vl W) (hO : w1.ownsRow w.heap.size 94 1 va' (vals.length + 1) (vals ++ [.slice none 0 0])) (hg : W.grownBy w1 va.ownBlock) :
    Rp w n Z va' (vals ++ [.slice none 0 0]) (H ++ [[]]) vl (w1.setCell ⟨w.heap.size + 1 + 1, 0, none⟩ va') ∧ Stp w W (w1.setCell ⟨w.heap.size + 1 + 1, 0, none⟩ va') := by
  have y1 : Ty W va.ownBlock 94 := ty_row h.al.row
  have a1 := bx_ty h.abox hg y1 (by decide)
  have y2 : Ty w1 (some (w.heap.size + 1 + 1)) 89 := fun q hq => by cases hq; exact ⟨_, a1⟩
  have g2 := grownBy_setCell' w1 (w.heap.size + 1 + 1) va'
  have i1 := bx_ty h.ibox hg y1 (by decide)
  have s1 := h.low.size
  have k1 := kq_ty h.ibox s1 hg y1 (by decide) (fun q hq => (owns_cells h.al.row hq).choose_spec.2)
  have k2 := kq_ty i1 (Nat.le_trans s1 hg.size) g2 y2 (by decide) (fun q hq => by cases hq; omega)
  exact ⟨⟨h.low.trans (k1.trans k2).low, bx_ty (bx_ty h.lbox hg y1 (by decide)) g2 y2 (by decide), ow_ty (ow_ty h.lrow hg y1 (by decide)) g2 y2 (by decide), a1.set va', al_ty (h.al.more hO hg) g2 y2 (by decide) (by decide), bx_ty i1 g2 y2 (by decide)⟩, (ko_ty hg y1).trans (ko_ty g2 y2), k1.trans k2⟩
end

end Go.Proofs.Ytppdcjjkkckokaa
