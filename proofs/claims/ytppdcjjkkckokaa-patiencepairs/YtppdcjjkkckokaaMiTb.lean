/-
  The reference's table of lengths, filled: table, walked.
-/
import Derived.Test.YtppdcjjkkckokaaMiWm
import Derived.Test.YtppdcjjkkckokaaEdRMk
namespace Go.Proofs.Ytppdcjjkkckokaa
open Go.RowKit

theorem infoInts : (Try.prog.info? 29).map (fun i => (i.zero, i.size, i.bytes)) = some (some (.slice none 0 0), 1, 24) := by kernel_rfl
/-- make([]T, n) -/
theorem run_makeN {T E : TypeId} {z : Value} {bytes : Nat} (hT : Try.prog.underlying T = some (.slice E)) (hinfo : (Try.prog.info? E).map (fun i => (i.zero, i.size, i.bytes)) = some (some z, 1, bytes)) (hby : bytes ≤ 32) (n : Int) (N : Nat) (hn : n = (N : Int)) (hN : N ≤ 1099511627776) (W : World) :
    (Instr.makeSlice T (.int .i64 n) (.int .i64 n)).run Try.prog W = .ok (.slice (some ⟨W.heap.size, 0, none⟩) N N) (W.alloc (.cells (madeCells z.cells N) E)) := by
  subst hn
  obtain ⟨i0, hi, hz0, hzs, hz2⟩ := info_parts hinfo
  have h1 : i0.bytes * N ≤ 32 * 1099511627776 := by rw [hz2]; exact Nat.mul_le_mul hby hN
  have hr := run_make (P := Try.prog) W T E i0 z hT hi hz0 .i64 .i64 (N : Int) (N : Int) (by omega) (Int.le_refl _) (by
    have : ((i0.bytes * N : Nat) : Int) ≤ 281474976710656 := by omega
    rwa [Int.natCast_mul] at this) (by omega)
  simpa [hzs] using hr
theorem madeL (z : Value) (N : Nat) : (madeCells #[z] N).toList = List.replicate N z := by
  apply List.ext_getElem
  · simp [madeCells]
  · intro i h1 h2
    simp [madeCells, Nat.mod_one]

/-- where row k lies -/
def rowB (B X k : Nat) : Nat := B + 1 + (X - k)
/-- a row as a value -/
def rowV (B X Y k : Nat) : Value := .slice (some ⟨rowB B X k, 0, none⟩) (Y + 1) (Y + 1)
/-- the state of the walk: rows from i on are made, those behind it are filled, row i from c on -/
structure Tb (w : World) (x y : List Int) (i c : Nat) (TS : List Value) (u : World) : Prop where
  low : Below w.heap.size w u
  size : u.heap.size = w.heap.size + 1 + (x.length + 1 - i)
  top : u.ownsRow w.heap.size 29 1 (.slice (some ⟨w.heap.size, 0, none⟩) (x.length + 1) (x.length + 1)) (x.length + 1) TS
  tops : ∀ k, i ≤ k → k ≤ x.length → TS[k]? = some (rowV w.heap.size x.length y.length k)
  rows : ∀ k, i ≤ k → k ≤ x.length → ∃ R, u.ownsRow w.heap.size 3 1 (rowV w.heap.size x.length y.length k) (y.length + 1) R ∧ ∀ j, j ≤ y.length → (i < k ∨ c ≤ j ∨ j = y.length ∨ k = x.length) → R[j]? = some (.int .i64 ((ln x y k j : Nat) : Int))
section
variable {w u : World} {x y : List Int} {i c : Nat} {TS : List Value}
theorem Tb.drewN (h : Tb w x y i c TS u) (n : Nat) : Tb w x y i c TS (u.drewN n) := ⟨Below.dN h.low n, h.size, h.top, h.tops, h.rows⟩
theorem Tb.top_len (h : Tb w x y i c TS u) : TS.length = x.length + 1 := by rw [h.top.1, Nat.mul_one]
theorem Tb.top_at (h : Tb w x y i c TS u) {k : Nat} (hi : i ≤ k) (hk : k ≤ x.length) : u.cell? ⟨w.heap.size, k, none⟩ = some (rowV w.heap.size x.length y.length k) := by
  rw [h.top.cellAt k (by omega)]
  exact h.tops k hi hk
theorem Tb.at (h : Tb w x y i c TS u) {k j : Nat} (hi : i ≤ k) (hk : k ≤ x.length) (hj : j ≤ y.length) (hc : i < k ∨ c ≤ j ∨ j = y.length ∨ k = x.length) : u.cell? ⟨rowB w.heap.size x.length k, j, none⟩ = some (.int .i64 ((ln x y k j : Nat) : Int)) := by
  obtain ⟨R, hR, hv⟩ := h.rows k hi hk
  unfold rowV at hR
  rw [hR.cellAt j (by omega)]
  exact hv j hj hc
theorem Tb.any_at (h : Tb w x y i c TS u) {j : Nat} (hi : i ≤ x.length) (hj : j ≤ y.length) : (∃ z, u.cell? ⟨rowB w.heap.size x.length i, j, none⟩ = some z) ∧ u.frozen? ⟨rowB w.heap.size x.length i, j, none⟩ = false := by
  obtain ⟨R, hR, hv⟩ := h.rows i (Nat.le_refl _) hi
  unfold rowV at hR
  refine ⟨?_, hR.frozenAt j⟩
  rw [hR.cellAt j (by omega)]
  have : R.length = y.length + 1 := by rw [hR.1, Nat.mul_one]
  exact ⟨R[j], List.getElem?_eq_getElem (by omega)⟩
theorem size_set (W : World) (b o : Nat) (v : Value) : (W.setCell ⟨b, o, none⟩ v).heap.size = W.heap.size := by
  show (W.heap.modify b _).size = _
  simp
theorem Tb.skip (h : Tb w x y i (c + 1) TS u) (hc : c = y.length ∨ i = x.length) : Tb w x y i c TS u := by
  refine ⟨h.low, h.size, h.top, h.tops, fun k h1 h2 => ?_⟩
  obtain ⟨R, hR, hv⟩ := h.rows k h1 h2
  exact ⟨R, hR, fun j hj hq => hv j hj (by omega)⟩
theorem Tb.next (h : Tb w x y (i + 1) 0 TS u) (hi : i ≤ x.length) (hY : y.length ≤ 1048576) : Tb w x y i (y.length + 1) (TS.set i (rowV w.heap.size x.length y.length i)) ((u.alloc (.cells (madeCells #[.int .i64 0] (y.length + 1)) 3)).setCell ⟨w.heap.size, i, none⟩ (rowV w.heap.size x.length y.length i)) := by
  have hsz : u.heap.size = rowB w.heap.size x.length i := by rw [h.size]; unfold rowB; omega
  obtain ⟨p1, g1⟩ := (h.top.alloc (.cells (madeCells #[.int .i64 0] (y.length + 1)) 3)).stored i (rowV w.heap.size x.length y.length i)
  refine ⟨?_, ?_, p1, fun k h1 h2 => ?_, fun k h1 h2 => ?_⟩
  · exact (h.low.alloc h.low.size _).grown g1 (by rw [World.size_alloc]; have := h.low.size; omega) (fun j hj => by cases hj; exact Nat.le_refl _)
  · rw [size_set, World.size_alloc, h.size]
    omega
  · by_cases e : k = i
    · subst e
      rw [List.getElem?_set_self (by rw [h.top_len]; omega)]
    · rw [List.getElem?_set_ne (fun q => e q.symm)]
      exact h.tops k (by omega) h2
  · by_cases e : k = i
    · subst e
      have hn := World.ownsRow_lit (base := w.heap.size) (e := 3) (size := 1) u (madeCells #[.int .i64 0] (y.length + 1)) (y.length + 1) h.low.size (by unfold maxLen; omega) (by rw [size_madeCells]; simp)
      rw [madeL, hsz] at hn
      refine ⟨_, hn.kept g1 (.inr (by simp [Value.ownBlock, rowB]; omega)), fun j hj hq => ?_⟩
      rw [List.getElem?_replicate, if_pos (by omega), ln_end x y k j (by omega)]
      rfl
    · obtain ⟨R, hR, hv⟩ := h.rows k (by omega) h2
      exact ⟨R, (hR.alloc _).kept g1 (.inr (by unfold rowV rowB; simp [Value.ownBlock]; omega)), fun j hj hq => hv j hj (by omega)⟩
theorem Tb.set (h : Tb w x y i (c + 1) TS u) (hi : i ≤ x.length) (hc : c ≤ y.length) (v : Int) (hv : v = ((ln x y i c : Nat) : Int)) : Tb w x y i c TS (u.setCell ⟨rowB w.heap.size x.length i, c, none⟩ (.int .i64 v)) := by
  subst hv
  obtain ⟨R, hR, hr⟩ := h.rows i (Nat.le_refl _) hi
  have hR' := hR
  unfold rowV at hR'
  obtain ⟨p1, g1⟩ := hR'.stored c (.int .i64 ((ln x y i c : Nat) : Int))
  have hl : R.length = y.length + 1 := by rw [hR.1, Nat.mul_one]
  refine ⟨?_, ?_, ?_, h.tops, fun k h1 h2 => ?_⟩
  · exact h.low.grown g1 h.low.size (fun j hj => by cases hj; unfold rowB; omega)
  · rw [size_set, h.size]
  · exact h.top.kept g1 (.inr (by simp [Value.ownBlock, rowB]; omega))
  · by_cases e : k = i
    · subst e
      refine ⟨_, p1, fun j hj hq => ?_⟩
      by_cases q : j = c
      · subst q
        rw [List.getElem?_set_self (by omega)]
      · rw [List.getElem?_set_ne (fun q' => q q'.symm)]
        exact hr j hj (by omega)
    · obtain ⟨R2, hR2, hv2⟩ := h.rows k h1 h2
      exact ⟨R2, hR2.kept g1 (.inr (by unfold rowV rowB; simp [Value.ownBlock]; omega)), fun j hj hq => hv2 j hj (by omega)⟩
end
theorem Tb.start (w : World) (x y : List Int) (hX : x.length ≤ 1048576) : Tb w x y (x.length + 1) 0 (List.replicate (x.length + 1) (.slice none 0 0)) (w.alloc (.cells (madeCells #[.slice none 0 0] (x.length + 1)) 29)) := by
  have hn := World.ownsRow_lit (base := w.heap.size) (e := 29) (size := 1) w (madeCells #[.slice none 0 0] (x.length + 1)) (x.length + 1) (Nat.le_refl _) (by unfold maxLen; omega) (by rw [size_madeCells]; simp)
  rw [madeL] at hn
  exact ⟨(Below.refl _ w).alloc (Nat.le_refl _) _, by simp, hn, fun k h1 h2 => by omega, fun k h1 h2 => by omega⟩
/-- what the table tells -/
structure Rd (B : Nat) (x y : List Int) (u : World) : Prop where
  lt : B + 1 + x.length < u.heap.size
  top : ∀ k, k ≤ x.length → u.cell? ⟨B, k, none⟩ = some (rowV B x.length y.length k)
  at' : ∀ k j, k ≤ x.length → j ≤ y.length → u.cell? ⟨rowB B x.length k, j, none⟩ = some (.int .i64 ((ln x y k j : Nat) : Int))
theorem cell_keep {u u' : World} (h : Below u.heap.size u u') {b o : Nat} {v : Value} (hb : b < u.heap.size) (hc : u.cell? ⟨b, o, none⟩ = some v) : u'.cell? ⟨b, o, none⟩ = some v := by
  rw [← hc]
  unfold World.cell?
  rw [h.block b hb]
theorem Rd.keep {B : Nat} {x y : List Int} {u u' : World} (h : Rd B x y u) (hb : Below u.heap.size u u') : Rd B x y u' := by
  have := h.lt
  refine ⟨Nat.lt_of_lt_of_le h.lt hb.size, fun k hk => cell_keep hb (by omega) (h.top k hk), fun k j hk hj => cell_keep hb ?_ (h.at' k j hk hj)⟩
  unfold rowB
  omega
theorem Tb.rd {w u : World} {x y : List Int} {TS : List Value} (h : Tb w x y 0 0 TS u) : Rd w.heap.size x y u :=
  ⟨by rw [h.size]; omega, fun _ hk => h.top_at (Nat.zero_le _) hk, fun _ _ hk hj => h.at (Nat.zero_le _) hk hj (.inr (.inl (Nat.zero_le _)))⟩

set_option maxRecDepth 10000 in
set_option maxHeartbeats 4000000 in
theorem table_f (x y : List Int) (vx vy : Value) (w : World) (hx : HI w vx x) (hy : HI w vy y) (hxl : x.length ≤ 4096) (hyl : y.length ≤ 4096) :
    Calls Try.prog 44 #[vx, vy] w fun e w' => e = .returned (.slice (some ⟨w.heap.size, 0, none⟩) (x.length + 1) (x.length + 1)) ∧ Rd w.heap.size x y w' ∧ Below w.heap.size w w' := by
  obtain ⟨xo, xc, rfl⟩ := Holds.form hx
  obtain ⟨yo, yc, rfl⟩ := Holds.form hy
  have hmk1 := run_makeN (T := 70) Try.underlying70 infoInts (by decide) ((x.length : Int) + 1) (x.length + 1) (by simp) (by omega)
  have hmk2 := run_makeN (T := 29) Try.underlying29 infoInt (by decide) ((y.length : Int) + 1) (y.length + 1) (by simp) (by omega)
  have hst := Tb.start w x y (by omega)
  go_enter Try.func44, Try.ntmps44
  go_wp2
  go_loopw [6] (fun iv wr => ∃ (k : Nat) (z : Int) (TS : List Value), k ≤ x.length + 1 ∧ iv = .int .i64 z ∧ z + 1 = k ∧ Tb w x y k 0 TS wr) (fun iv _ => (intOf iv + 1).toNat)
  case atStart => exact ⟨x.length + 1, (x.length : Int), _, Nat.le_refl _, rfl, by simp, hst⟩
  case round =>
    clear hst hmk1
    obtain ⟨k, z, TS, hk, rfl, hz, hS⟩ := hrel
    cases k with
    | zero =>
      obtain rfl : z = -1 := by omega
      go_wp2
      go_ret
      exact ⟨rfl, hS.rd, hS.low⟩
    | succ i =>
      obtain rfl : z = (i : Int) := by omega
      clear hz
      have c0 := hS.top.cellAt i (by omega)
      rw [List.getElem?_eq_getElem (by rw [hS.top_len]; omega)] at c0
      obtain ⟨z0, hz0⟩ : ∃ z, TS[i]'(by rw [hS.top_len]; omega) = z := ⟨_, rfl⟩
      rw [hz0] at c0
      have f0 := hS.top.frozenAt i
      clear hz0
      have i1 : 0 ≤ (i : Int) := by omega
      have i2 : (i : Int) < (x.length : Int) + 1 := by omega
      have hsz : wr.heap.size = rowB w.heap.size x.length i := by rw [hS.size]; unfold rowB; omega
      have hN := hS.next (by omega) (by omega)
      unfold rowV at hN
      have c0' : (wr.alloc (Obj.cells (madeCells #[Value.int IntKind.i64 0] (y.length + 1)) 3)).cell? ⟨w.heap.size, i, none⟩ = some z0 := cell_keep ((Below.refl _ wr).alloc (Nat.le_refl _) _) (by rw [hS.size]; omega) c0
      have f0' : (wr.alloc (Obj.cells (madeCells #[Value.int IntKind.i64 0] (y.length + 1)) 3)).frozen? ⟨w.heap.size, i, none⟩ = false := (hS.top.alloc _).frozenAt i
      clear c0 f0
      go_wp2
      go_loopw [7] (fun jv wi => ∃ (c : Nat) (z : Int) (TS' : List Value), c ≤ y.length + 1 ∧ jv = .int .i64 z ∧ z + 1 = c ∧ Tb w x y i c TS' wi) (fun jv _ => (intOf jv + 1).toNat)
      case atStart => exact ⟨y.length + 1, (y.length : Int), _, Nat.le_refl _, rfl, by simp, hN⟩
      case round =>
        clear hS c0' f0' hN hsz hmk2
        obtain ⟨c, z, TS', hc, rfl, hz, hS⟩ := hrel
        cases c with
        | zero =>
          obtain rfl : z = -1 := by omega
          go_wp2
          go_roundw
          case rel => exact ⟨i, (i : Int) - 1, TS', by omega, by go_num, by omega, hS⟩
          case measure => simp [intOf]
        | succ j =>
          obtain rfl : z = (j : Int) := by omega
          clear hz
          by_cases he : i = x.length
          · have hS' := hS.skip (.inr he)
            have he' : decide ((i : Int) = (x.length : Int)) = true := decide_eq_true (by omega)
            clear i2
            go_wp2
            go_roundw
            case rel => exact ⟨j, (j : Int) - 1, TS', by omega, by go_num, by omega, hS'⟩
            case measure => simp [intOf]
          · have he' : ((i : Int) == (x.length : Int)) = false := by simp; omega
            by_cases hf : j = y.length
            · have hS' := hS.skip (.inl hf)
              have hf' : decide ((j : Int) = (y.length : Int)) = true := decide_eq_true (by omega)
              go_wp2
              go_roundw
              case rel => exact ⟨j, (j : Int) - 1, TS', by omega, by go_num, by omega, hS'⟩
              case measure => simp [intOf]; omega
            · have hf' : ((j : Int) == (y.length : Int)) = false := by simp; omega
              obtain ⟨bx, ox, rfl, _, hcx⟩ := HI.at (HI.keep hx hS.low (Nat.le_refl _)) (by omega)
              obtain ⟨by', oy, rfl, _, hcy⟩ := HI.at (HI.keep hy hS.low (Nat.le_refl _)) (by omega)
              have d1 := hcx i (by omega)
              have d2 := hcy j (by omega)
              have hln := ln_step x y i j (by omega) (by omega)
              obtain ⟨xi, hxi⟩ : ∃ z, x[i] = z := ⟨_, rfl⟩
              obtain ⟨yj, hyj⟩ : ∃ z, y[j] = z := ⟨_, rfl⟩
              rw [hxi] at d1 hln
              rw [hyj] at d2 hln
              clear hcx hcy hxi hyj
              have t1 := hS.top_at (k := i) (Nat.le_refl _) (by omega)
              have t2 := hS.top_at (k := i + 1) (by omega) (by omega)
              have r1 := hS.at (k := i + 1) (j := j + 1) (by omega) (by omega) (by omega) (by omega)
              have r2 := hS.at (k := i + 1) (j := j) (by omega) (by omega) (by omega) (by omega)
              have r3 := hS.at (k := i) (j := j + 1) (by omega) (by omega) (by omega) (by omega)
              obtain ⟨⟨z0, c0⟩, f0⟩ := hS.any_at (j := j) (by omega) (by omega)
              unfold rowV at t1 t2
              have hgen : ∀ (n : Nat) (v : Int), v = ((ln x y i j : Nat) : Int) → Tb w x y i j TS' ((wr.drewN n).setCell ⟨rowB w.heap.size x.length i, j, none⟩ (.int .i64 v)) := fun n v hv => (hS.drewN n).set (by omega) (by omega) v hv
              have HLN : Hid (ln x y i j = if xi = yj then ln x y (i + 1) (j + 1) + 1 else max (ln x y (i + 1) j) (ln x y i (j + 1))) := hln
              have b1 := ln_le x y (i + 1) (j + 1)
              have b2 := ln_le x y (i + 1) j
              have b3 := ln_le x y i (j + 1)
              clear hln
              have j1 : 0 ≤ (j : Int) := by omega
              have j2 : (j : Int) < (y.length : Int) := by omega
              have j3 : (j : Int) + 1 < (y.length : Int) + 1 := by omega
              have j4 : (j : Int) < (y.length : Int) + 1 := by omega
              have i3 : (i : Int) + 1 < (x.length : Int) + 1 := by omega
              have i4 : (i : Int) < (x.length : Int) := by omega
              generalize rowB w.heap.size x.length i = gi at *
              generalize rowB w.heap.size x.length (i + 1) = gj at *
              by_cases hxy : xi = yj
              · have HL : Hid (ln x y i j = ln x y (i + 1) (j + 1) + 1) := (by show _ = _; rw [HLN.out, if_pos hxy])
                clear HLN r2 r3 b2 b3
                generalize ln x y (i + 1) (j + 1) = a1 at *
                have hxy' : decide (xi = yj) = true := decide_eq_true hxy
                go_wp2_with fail
                go_quiet (fail)
                go_wp2_with fail
                go_region
                go_wp2
                exact ⟨⟨j, (j : Int) - 1, TS', by omega, by go_num, by omega, hgen _ _ (by rw [HL.out]; simp)⟩, by simp [intOf]⟩
              · have HL : Hid (ln x y i j = max (ln x y (i + 1) j) (ln x y i (j + 1))) := (by show _ = _; rw [HLN.out, if_neg hxy])
                clear HLN r1 b1
                have hxy' : decide (xi = yj) = false := decide_eq_false hxy
                generalize ln x y (i + 1) j = a1 at *
                generalize ln x y i (j + 1) = a2 at *
                go_wp2_with fail
                go_quiet (fail)
                go_wp2_with fail
                go_region
                go_wp2
                exact ⟨⟨j, (j : Int) - 1, TS', by omega, by go_num, by omega, hgen _ _ (by rw [HL.out]; split <;> omega)⟩, by simp [intOf]⟩
end Go.Proofs.Ytppdcjjkkckokaa
