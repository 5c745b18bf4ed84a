/-
  Texts that belong together, joined: EdOpenS, HuOpen.
-/
import Derived.Test.YtgckcbcdmmnkoaaGreatDoorPartA12
import Derived.Test.YtgckcbcdmmnkoaaGreatDoorPartA4

/- What an argument of type []string holds, and how much of it there is by the statement's own count. -/
set_option maxRecDepth 20000
namespace Go.Proofs.YtgckcbcdmmnkoaaGreatDoor
open Go.ChangeShapes Go.WideShapes Go.ChangeAt Go.RowKit

theorem cellsStr : Tryz.prog.cellsOf 9 = 1 := by kernel_rfl
theorem strs_bulk {H : Type} (l : List ByteArray) : l.length + (l.map fun s => s.data.toList).flatten.length ≤ Rows.uptoBulkAll (strs (H := H) l) := by
  induction l with
  | nil => simp [strs, Rows.uptoBulkAll]
  | cons s t ih =>
    have e : strs (H := H) (s :: t) = .lit (.string s.data.toList) :: strs t := rfl
    rw [e, Rows.uptoBulkAll, Rows.uptoBulk]
    simp only [List.length_cons, List.map_cons, List.flatten_cons, List.length_append] at ih ⊢
    omega

/-- the texts that an argument holds -/
theorem open_texts {H : Type} {enc : TypeId × Value → H} {W : World} {fuel : Nat} {ao : Option Addr} {len cap : Nat} {d : DataW H} {p : List MemPlace}
    (h : DataW.trod enc Tryz.prog W 0 (fun _ => true) true fuel 22 [.slice ao len cap] = some (d, p)) :
    ∃ ws : List (List UInt8), HS W (.slice ao len cap) ws ∧ ws.length + ws.flatten.length ≤ Rows.uptoBulk d := by
  rcases open_strings Tryz.underlying22 Tryz.underlying9 cellsStr h with ⟨hcs, hx⟩ | ⟨a, l, c, ss, hcs, _, hl, hm, hz, hx, hcell, _⟩
  · simp at hcs
    obtain ⟨rfl, rfl, rfl⟩ := hcs
    exact ⟨[], .inl ⟨rfl, rfl, rfl⟩, by simp⟩
  · simp at hcs
    obtain ⟨rfl, rfl, rfl⟩ := hcs
    simp at hz
    simp only [Prod.mk.injEq] at hx
    obtain ⟨rfl, _⟩ := hx
    have hlen : ((ss.take len).map fun s => s.data.toList).length = len := by simp; omega
    refine ⟨(ss.take len).map fun s => s.data.toList, .inr ⟨a, cap, by rw [hlen], by omega, fun j u hj => ?_⟩, ?_⟩
    · have hj' : j < len := by
        have := (List.getElem?_eq_some_iff.1 hj).1
        rw [scells_length, hlen] at this
        exact this
      rw [hcell j (by omega)]
      have hjs : j < ss.length := by omega
      simp [scells, hj', hjs] at hj
      simp [List.getD, hjs, ← hj]
    · have := strs_bulk (H := H) (ss.take len)
      rw [Rows.uptoBulk]
      simp only [List.length_map] at this ⊢
      omega
end Go.Proofs.YtgckcbcdmmnkoaaGreatDoor

/- What arguments of type api.Hunk, []api.Hunk hold, and how much of it there is by the statement's own count. -/
set_option maxRecDepth 20000
namespace Go.Proofs.YtgckcbcdmmnkoaaGreatDoor
open Go.ChangeShapes Go.WideShapes Go.ChangeAt Go.RowKit

theorem cellsMk : Tryz.prog.cellsOf 52 = 2 := by kernel_rfl
theorem cellsHk : Tryz.prog.cellsOf 39 = 5 := by kernel_rfl
theorem cellsU8 : Tryz.prog.cellsOf 5 = 1 := by kernel_rfl
theorem cellsMks : Tryz.prog.cellsOf 37 = 1 := by kernel_rfl
/-- how much lines are, and hunks -/
def mb : List Mk → Nat
  | [] => 0
  | m :: l => m.tx.length + 1 + mb l
def hbk : List Hk → Nat
  | [] => 0
  | h :: l => mb h.ls + 1 + hbk l
theorem mb_len (l : List Mk) : l.length ≤ mb l := by
  induction l with
  | nil => simp
  | cons m l ih => simp only [mb, List.length_cons]; omega
theorem mb_mem (l : List Mk) : ∀ m ∈ l, m.tx.length ≤ mb l := by
  induction l with
  | nil => intro m hm; cases hm
  | cons x l ih =>
    intro m hm
    simp only [mb]
    rcases List.mem_cons.1 hm with rfl | hm
    · omega
    · have := ih m hm
      omega
theorem hb_len (l : List Hk) : l.length ≤ hbk l := by
  induction l with
  | nil => simp
  | cons m l ih => simp only [hbk, List.length_cons]; omega
theorem hb_mem (l : List Hk) : ∀ h ∈ l, mb h.ls ≤ hbk l := by
  induction l with
  | nil => intro m hm; cases hm
  | cons x l ih =>
    intro m hm
    simp only [hbk]
    rcases List.mem_cons.1 hm with rfl | hm
    · omega
    · have := ih m hm
      omega
theorem mb_range (f : Nat → Mk) (n : Nat) : mb ((List.range n).map f) = ((List.range n).map fun i => (f i).tx.length + 1).sum := by
  have key : ∀ l : List Mk, mb l = (l.map fun m => m.tx.length + 1).sum := by
    intro l
    induction l with
    | nil => rfl
    | cons m l ih => simp only [mb, ih, List.map_cons, List.sum_cons]
  rw [key, List.map_map]
  rfl
theorem hb_range (f : Nat → Hk) (n : Nat) : hbk ((List.range n).map f) = ((List.range n).map fun i => mb (f i).ls + 1).sum := by
  have key : ∀ l : List Hk, hbk l = (l.map fun m => mb m.ls + 1).sum := by
    intro l
    induction l with
    | nil => rfl
    | cons m l ih => simp only [hbk, ih, List.map_cons, List.sum_cons]
  rw [key, List.map_map]
  rfl
theorem bulk_sum {H : Type} (D : Nat → DataW H) (c : Nat → Nat) (n : Nat) (h : ∀ i, i < n → c i ≤ Rows.uptoBulk (D i)) : ((List.range n).map c).sum ≤ Rows.uptoBulkAll ((List.range n).map D) := by
  have key : ∀ l : List Nat, (∀ i ∈ l, c i ≤ Rows.uptoBulk (D i)) → (l.map c).sum ≤ Rows.uptoBulkAll (l.map D) := by
    intro l
    induction l with
    | nil => intro _; simp
    | cons i l ih =>
      intro hl
      have h1 := hl i (by simp)
      have h2 := ih fun j hj => hl j (by simp [hj])
      simp only [List.map_cons, List.sum_cons, Rows.uptoBulkAll]
      omega
  exact key _ fun i hi => h i (by simpa using hi)

set_option maxRecDepth 10000 in
theorem open_mks {H : Type} {enc : TypeId × Value → H} {W : World} {fuel : Nat} {cs : List Value} {d : DataW H} {p : List MemPlace}
    (h : DataW.trod enc Tryz.prog W 0 (fun _ => true) true fuel 37 cs = some (d, p)) :
    ∃ (v : Value) (l : List Mk), cs = [v] ∧ HMk W v l ∧ mb l ≤ Rows.uptoBulk d ∧ ∀ m ∈ l, 0 ≤ m.sg ∧ m.sg ≤ 255 := by
  rcases Go.Deep.open_slice Tryz.underlying37 h with ⟨hcs, hx⟩ | ⟨a, len, cap, m, n, D, Pl, hcs, _, hl, hm, hmm, hx, hel⟩
  · exact ⟨_, [], hcs, .inl ⟨rfl, rfl, rfl⟩, by simp [mb], by simp⟩
  · simp only [Prod.mk.injEq] at hx
    obtain ⟨rfl, _⟩ := hx
    have hlm : len ≤ m := by rw [hmm]; split <;> omega
    have each : ∀ i, i < len → ∃ c : Mk, (0 ≤ c.sg ∧ c.sg ≤ 255) ∧ W.cell? (a.add (i * 2)) = some (.int .u8 c.sg) ∧ W.cell? (a.add (i * 2 + 1)) = some (.string ⟨c.tx.toArray⟩) ∧ c.tx.length + 1 ≤ Rows.uptoBulk (D i) := by
      intro i hi
      obtain ⟨cs', h1, h2⟩ := hel i (by omega)
      rw [cellsMk] at h1
      obtain ⟨_, hlen, hcell⟩ := World.cells?_some h1
      obtain ⟨xs, k, hk, hxy, _, hxl, hf⟩ := DataW.trod_struct Tryz.underlying52 h2
      match xs, hxl, cs', hlen with
      | [y0, y1], _, [v0, v1], _ =>
        have g0 := hf 0 _ rfl
        have g1 := hf 1 _ rfl
        simp [cellsU8, cellsStr] at g0 g1
        obtain ⟨z0, e0, q0, w0⟩ := DataW.trod_int Tryz.underlying5 g0
        obtain ⟨z1, e1, q1, _⟩ := DataW.trod_string Tryz.underlying9 g1
        cases e0
        cases e1
        have c0 := hcell 0 (by omega)
        have c1 := hcell 1 (by omega)
        rw [Go.Deep.add_add] at c0 c1
        simp only [Prod.mk.injEq] at hxy
        have hw : 0 ≤ z0 ∧ z0 ≤ 255 := bounds_u8 w0
        refine ⟨⟨z0, z1.data.toList⟩, hw, by simpa using c0, by simpa using c1, ?_⟩
        rw [hxy.1, q0, q1]
        simp [Rows.uptoBulk, Rows.uptoBulkAll]
        omega
    have : Inhabited Mk := ⟨⟨0, []⟩⟩
    obtain ⟨f, hf⟩ := Go.Deep.choose_lt each
    have hlen : ((List.range len).map f).length = len := by simp
    refine ⟨_, (List.range len).map f, hcs, .inr ⟨a, cap, by rw [hlen], by rw [hlen]; exact hl, fun j u hj => ?_⟩, ?_, ?_⟩
    · have hj' : j < len * 2 := by
        have := (List.getElem?_eq_some_iff.1 hj).1
        rw [mkcells_length, hlen] at this
        exact this
      obtain ⟨h0, h1⟩ := mkcells_at ((List.range len).map f) (j / 2) (by rw [hlen]; omega)
      obtain ⟨_, g0, g1, _⟩ := hf (j / 2) (by omega)
      simp only [List.getElem_map, List.getElem_range] at h0 h1
      rcases (by omega : j = 2 * (j / 2) ∨ j = 2 * (j / 2) + 1) with e | e
      · rw [e, h0] at hj
        rw [e, Nat.mul_comm, g0, hj]
      · rw [e, h1] at hj
        rw [e, Nat.mul_comm, g1, hj]
    · rw [mb_range, Rows.uptoBulk]
      have := bulk_sum D (fun i => (f i).tx.length + 1) len fun i hi => (hf i hi).2.2.2
      omega
    · intro c hc
      simp only [List.mem_map, List.mem_range] at hc
      obtain ⟨i, hi, rfl⟩ := hc
      exact (hf i hi).1
/-- a hunk's cells -/
theorem open_hkc {H : Type} {enc : TypeId × Value → H} {W : World} {fuel : Nat} {cs : List Value} {d : DataW H} {p : List MemPlace}
    (h : DataW.trod enc Tryz.prog W 0 (fun _ => true) true fuel 39 cs = some (d, p)) :
    ∃ (x : Hk) (y : Value), cs = hkC x y ∧ HMk W y x.ls ∧ mb x.ls + 1 ≤ Rows.uptoBulk d ∧ (w64 x.A ∧ w64 x.AN ∧ w64 x.B ∧ w64 x.BN) ∧ ∀ m ∈ x.ls, 0 ≤ m.sg ∧ m.sg ≤ 255 := by
  obtain ⟨xs, k, hk, hxy, hlen, hxl, hf⟩ := DataW.trod_struct Tryz.underlying39 h
  rw [cellsHk] at hlen
  match xs, hxl, cs, hlen with
  | [y0, y1, y2, y3, y4], _, [v0, v1, v2, v3, v4], _ =>
    have g0 := hf 0 _ rfl
    have g1 := hf 1 _ rfl
    have g2 := hf 2 _ rfl
    have g3 := hf 3 _ rfl
    have g4 := hf 4 _ rfl
    simp [cellsInt, cellsMks] at g0 g1 g2 g3 g4
    obtain ⟨z0, e0, q0, w0⟩ := DataW.trod_int Tryz.underlying3 g0
    obtain ⟨z1, e1, q1, w1⟩ := DataW.trod_int Tryz.underlying3 g1
    obtain ⟨z2, e2, q2, w2⟩ := DataW.trod_int Tryz.underlying3 g2
    obtain ⟨z3, e3, q3, w3⟩ := DataW.trod_int Tryz.underlying3 g3
    obtain ⟨y4d, y4p⟩ := y4
    obtain ⟨v, l, e4, hm, hb, hs⟩ := open_mks g4
    cases e0
    cases e1
    cases e2
    cases e3
    cases e4
    simp only [Prod.mk.injEq] at hxy
    refine ⟨⟨z0, z1, z2, z3, l⟩, v4, rfl, hm, ?_, ⟨w64_of w0, w64_of w1, w64_of w2, w64_of w3⟩, hs⟩
    rw [hxy.1, q0, q1, q2, q3]
    simp [Rows.uptoBulk, Rows.uptoBulkAll]
    omega
theorem hkC_at (x : Hk) (y : Value) : hkC x y = [.int .i64 x.A, .int .i64 x.AN, .int .i64 x.B, .int .i64 x.BN, y] := rfl

set_option maxRecDepth 10000 in
/-- the hunks that an argument holds -/
theorem open_hks {H : Type} {enc : TypeId × Value → H} {W : World} {fuel : Nat} {ao : Option Addr} {len cap : Nat} {d : DataW H} {p : List MemPlace}
    (h : DataW.trod enc Tryz.prog W 0 (fun _ => true) true fuel 32 [.slice ao len cap] = some (d, p)) :
    ∃ l : List (Hk × Value), HHp W (.slice ao len cap) l ∧ hbk (l.map (·.1)) ≤ Rows.uptoBulk d ∧ ∀ x ∈ l, (w64 x.1.A ∧ w64 x.1.AN ∧ w64 x.1.B ∧ w64 x.1.BN) ∧ ∀ m ∈ x.1.ls, 0 ≤ m.sg ∧ m.sg ≤ 255 := by
  rcases Go.Deep.open_slice Tryz.underlying32 h with ⟨hcs, hx⟩ | ⟨a, l, c, m, n, D, Pl, hcs, _, hl, hm, hmm, hx, hel⟩
  · simp at hcs
    obtain ⟨rfl, rfl, rfl⟩ := hcs
    exact ⟨[], ⟨.inl ⟨rfl, rfl, rfl⟩, by simp⟩, by simp [hbk], by simp⟩
  · simp at hcs
    obtain ⟨rfl, rfl, rfl⟩ := hcs
    simp only [Prod.mk.injEq] at hx
    obtain ⟨rfl, _⟩ := hx
    have hlm : len ≤ m := by rw [hmm]; split <;> omega
    have each : ∀ i, i < len → ∃ c : Hk × Value, (∀ j, j < 5 → W.cell? (a.add (i * 5 + j)) = (hkC c.1 c.2)[j]?) ∧ HMk W c.2 c.1.ls ∧ mb c.1.ls + 1 ≤ Rows.uptoBulk (D i) ∧ (w64 c.1.A ∧ w64 c.1.AN ∧ w64 c.1.B ∧ w64 c.1.BN) ∧ ∀ m ∈ c.1.ls, 0 ≤ m.sg ∧ m.sg ≤ 255 := by
      intro i hi
      obtain ⟨cs', h1, h2⟩ := hel i (by omega)
      rw [cellsHk] at h1
      obtain ⟨_, hlen, hcell⟩ := World.cells?_some h1
      obtain ⟨x, y, rfl, hm, hb, hw, hs⟩ := open_hkc h2
      refine ⟨(x, y), fun j hj => ?_, hm, hb, hw, hs⟩
      have := hcell j (by simpa [hkC] using hj)
      rw [Go.Deep.add_add] at this
      rw [this]
    have : Inhabited (Hk × Value) := ⟨(⟨0, 0, 0, 0, []⟩, .slice none 0 0)⟩
    obtain ⟨f, hf⟩ := Go.Deep.choose_lt each
    have hlen : ((List.range len).map f).length = len := by simp
    refine ⟨(List.range len).map f, ⟨.inr ⟨a, cap, by rw [hlen], by rw [hlen]; exact hl, fun j u hj => ?_⟩, ?_⟩, ?_, ?_⟩
    · have hj' : j < len * 5 := by
        have := (List.getElem?_eq_some_iff.1 hj).1
        rw [hkcells_length, hlen] at this
        exact this
      obtain ⟨h0, h1, h2, h3, h4⟩ := hkcells_at ((List.range len).map f) (j / 5) (by rw [hlen]; omega)
      have hfj := (hf (j / 5) (by omega)).1
      simp only [List.getElem_map, List.getElem_range] at h0 h1 h2 h3 h4
      rcases (by omega : j = 5 * (j / 5) ∨ j = 5 * (j / 5) + 1 ∨ j = 5 * (j / 5) + 2 ∨ j = 5 * (j / 5) + 3 ∨ j = 5 * (j / 5) + 4) with e | e | e | e | e
      · rw [e, h0] at hj
        have := hfj 0 (by omega)
        rw [e, Nat.mul_comm]
        rw [Nat.add_zero] at this
        rw [this, ← hj]
        rfl
      · rw [e, h1] at hj
        rw [e, Nat.mul_comm, hfj 1 (by omega), ← hj]
        rfl
      · rw [e, h2] at hj
        rw [e, Nat.mul_comm, hfj 2 (by omega), ← hj]
        rfl
      · rw [e, h3] at hj
        rw [e, Nat.mul_comm, hfj 3 (by omega), ← hj]
        rfl
      · rw [e, h4] at hj
        rw [e, Nat.mul_comm, hfj 4 (by omega), ← hj]
        rfl
    · intro x hx
      simp only [List.mem_map, List.mem_range] at hx
      obtain ⟨i, hi, rfl⟩ := hx
      exact (hf i hi).2.1
    · rw [List.map_map]
      have e := hb_range (fun i => (f i).1) len
      have h2 := bulk_sum D (fun i => mb (f i).1.ls + 1) len fun i hi => (hf i hi).2.2.1
      rw [Rows.uptoBulk]
      show hbk ((List.range len).map fun i => (f i).1) ≤ _
      omega
    · intro x hx
      simp only [List.mem_map, List.mem_range] at hx
      obtain ⟨i, hi, rfl⟩ := hx
      exact (hf i hi).2.2.2
end Go.Proofs.YtgckcbcdmmnkoaaGreatDoor
