/-
  Texts that belong together, joined: EdRMk, MiTb, PaLs, PaTr, MiRk, PcLe.
-/
import Derived.Test.YteplejpbgajecaaPartA2
import Derived.Test.YteplejpbgajecaaPartA4
import Derived.Test.YteplejpbgajecaaPartC1
import Derived.Laws.Rows
import Derived.Deep.CutRange

/- The reference's Make, walked. -/
namespace Go.Proofs.Yteplejpbgajecaa
open Go.RowKit

set_option maxRecDepth 10000 in
set_option maxHeartbeats 4000000 in
theorem rMake_f (K : List Int) (m : Int) (L : List Ch) (v : Value) (w : World) (hK : HI w v K) (hlen : K.length ≤ 1048576) (hV : Hid (Vk 0 m K)) (hm0 : 0 ≤ m) (hm : m ≤ 2147483647) (hL : Hid (mkL K m = L)) :
    Calls Try.prog 34 #[v, .int .i64 m] w fun e w' => ∃ v', e = .returned (.tuple #[v', .int .i64 0]) ∧ HCh w' v' L ∧ Below w.heap.size w w' := by
  obtain ⟨ao, ca, rfl⟩ := Holds.form hK
  go_enter Try.func34, Try.ntmps34
  go_wp2
  go_loopw [6, 7] (fun lv iv wr => ∃ (k : Nat) (la : Int), k ≤ K.length ∧ lv = .int .i64 la ∧ iv = .int .i64 (k : Int) ∧ -1 ≤ la ∧ la ≤ m ∧ w = wr ∧ Hid (Vk (la + 1) m (K.drop k))) (fun _ iv _ => K.length - (intOf iv).toNat)
  case atStart => exact ⟨0, -1, Nat.zero_le _, rfl, rfl, by omega, by omega, rfl, hV⟩
  case round =>
    obtain ⟨k, la, hk, rfl, rfl, hl0, hl1, rfl, hR⟩ := hrel
    by_cases hlt : k < K.length
    · obtain ⟨bk, off, rfl, hbk, hc⟩ := HI.at hK (by omega)
      have c0 := hc k hlt
      have hR' := hR.out
      rw [List.drop_eq_getElem_cons hlt] at hR'
      obtain ⟨z, hzd⟩ : ∃ z, K[k] = z := ⟨_, rfl⟩
      rw [hzd] at hR' c0
      clear hc hzd hR
      have i1 : 0 ≤ (k : Int) := by omega
      have i2 : (k : Int) < (K.length : Int) := by omega
      by_cases hz : z = -1
      · subst hz
        have HR : Hid (Vk (la + 1) m (K.drop (k + 1))) := (by
          rcases hR' with ⟨_, h1⟩ | ⟨h1, _⟩
          · exact h1
          · exact absurd rfl h1)
        clear hR'
        go_wp2
        go_roundw
        case rel => exact ⟨k + 1, la, by omega, rfl, by go_num, hl0, hl1, by first | rfl | trivial, HR⟩
        case measure => simp [intOf]; omega
      · have hq : la + 1 ≤ z ∧ z < m ∧ Vk (z + 1) m (K.drop (k + 1)) := by
          rcases hR' with ⟨h1, _⟩ | ⟨_, h1⟩
          · exact absurd h1 hz
          · exact h1
        obtain ⟨q1, q2, q3⟩ := hq
        have HR : Hid (Vk (z + 1) m (K.drop (k + 1))) := q3
        clear hR' q3
        have hz2 : decide (z = -1) = false := decide_eq_false hz
        have n1 : ¬ z ≤ la := by omega
        have n2 : ¬ m ≤ z := by omega
        go_wp2
        go_roundw
        case rel => exact ⟨k + 1, z, by omega, rfl, by go_num, by omega, by omega, by first | rfl | trivial, HR⟩
        case measure => simp [intOf]; omega
    · have n0 : ¬ m < 0 := by omega
      have i2 : ¬ (k : Int) < (K.length : Int) := by omega
      clear hR
      go_wp2
      go_loopw [8, 9, 10, 11] (fun ov av bv iv wr => ∃ (k : Nat) (a b : Int) (X : List Ch), k ≤ K.length + 1 ∧ (∃ oo oc, ov = .slice oo X.length oc) ∧ av = .int .i64 a ∧ bv = .int .i64 b ∧ iv = .int .i64 (k : Int) ∧ 0 ≤ a ∧ a ≤ k ∧ 0 ≤ b ∧ b ≤ m + 1 ∧ St w 49 4 ov X.length (chcells X) wr ∧ X.length ≤ k ∧ Hid ((k ≤ K.length → Vk b m (K.drop k) ∧ b ≤ m ∧ X ++ betw a b (keptR k (K.drop k) ++ [⟨K.length, m, 0⟩]) = L) ∧ (k = K.length + 1 → X = L))) (fun _ _ _ iv _ => K.length + 1 - (intOf iv).toNat)
      case atStart => exact ⟨0, 0, 0, [], Nat.zero_le _, ⟨_, _, rfl⟩, rfl, rfl, rfl, by omega, by omega, by omega, by omega, ⟨World.ownsRow_nil _ _ _ _, Below.refl _ w⟩, Nat.zero_le _, ⟨fun _ => ⟨hV.out, hm0, hL.out⟩, fun h => by omega⟩⟩
      case round =>
        clear hlt i2 hk
        obtain ⟨k, a, b, X, hk, ⟨oo, oc, rfl⟩, rfl, rfl, rfl, ha0, ha1, hb0, hb1, hSt, hX, hR⟩ := hrel
        have hsz := hSt.low.size
        by_cases hlt : k < K.length
        · obtain ⟨bk, off, rfl, hbk, hc⟩ := HI.at (HI.keep hK hSt.low (Nat.le_refl _)) (by omega)
          have c0 := hc k hlt
          have hR' := hR.out.1 (by omega)
          rw [List.drop_eq_getElem_cons hlt] at hR'
          obtain ⟨z, hzd⟩ : ∃ z, K[k] = z := ⟨_, rfl⟩
          rw [hzd] at hR' c0
          clear hc hzd hR
          have i1 : 0 ≤ (k : Int) := by omega
          have i2 : (k : Int) < (K.length : Int) := by omega
          have i3 : (k : Int) ≤ (K.length : Int) := by omega
          by_cases hz : z = -1
          · subst hz
            have HR : Hid ((k + 1 ≤ K.length → Vk b m (K.drop (k + 1)) ∧ b ≤ m ∧ X ++ betw a b (keptR (k + 1 : Nat) (K.drop (k + 1)) ++ [⟨K.length, m, 0⟩]) = L) ∧ (k + 1 = K.length + 1 → X = L)) := (by
              obtain ⟨h1, h2, h3⟩ := hR'
              rw [keptR, if_pos rfl] at h3
              rcases h1 with ⟨_, h1⟩ | ⟨h1, _⟩
              · exact ⟨fun _ => ⟨h1, h2, h3⟩, fun h => by omega⟩
              · exact absurd rfl h1)
            clear hR'
            go_wp2
            go_roundw
            case rel => exact ⟨k + 1, a, b, X, by omega, ⟨_, _, rfl⟩, rfl, rfl, by go_num, ha0, by omega, hb0, hb1, hSt, by omega, HR⟩
            case measure => simp [intOf]; omega
          · have hq : b ≤ z ∧ z < m ∧ Vk (z + 1) m (K.drop (k + 1)) := by
              rcases hR'.1 with ⟨h1, _⟩ | ⟨_, h1⟩
              · exact absurd h1 hz
              · exact h1
            obtain ⟨q1, q2, q3⟩ := hq
            have hz2 : decide (z = -1) = false := decide_eq_false hz
            have h3 := hR'.2.2
            rw [keptR, if_neg hz, List.cons_append, betw] at h3
            dsimp only at h3
            clear hR'
            by_cases hcd : a < (k : Int) ∨ b < z
            · rw [if_pos hcd] at h3
              have HR : Hid ((k + 1 ≤ K.length → Vk (z + 1) m (K.drop (k + 1)) ∧ z + 1 ≤ m ∧ X ++ [⟨a, (k : Int) - a, b, z - b⟩] ++ betw ((k : Int) + 1) (z + 1) (keptR (k + 1 : Nat) (K.drop (k + 1)) ++ [⟨K.length, m, 0⟩]) = L) ∧ (k + 1 = K.length + 1 → X ++ [⟨a, (k : Int) - a, b, z - b⟩] = L)) := ⟨fun _ => ⟨q3, by omega, by rw [← h3]; simp⟩, fun h => by omega⟩
              clear h3 q3
              by_cases hak : a < (k : Int)
              · have n5 : decide (a < (k : Int)) = true := decide_eq_true hak
                go_wp2_with (at_builtin; refine wpList_append_h _ (by kernel_rfl) (.tmp 69) (.tmp 79) 23 49 (.agg #[.int .i64 0, .int .i64 0, .int .i64 0, .int .i64 0]) 4 32 rfl Try.underlying23 infoCh rfl (by decide) (by decide) w.heap.size _ _ _ rfl (hSt.own.alloc _) _ 1 (chcells [⟨a, (k : Int) - a, b, z - b⟩]) rfl (new_holds _ _ _ _ _ (by decide)) rfl (chcells_one _) (by omega) (by simp; omega) ?_)
                intro v2 w2 hown2 hgrow2
                have hSt2 := (st_alloc (Obj.cells #[Value.int IntKind.i64 a, Value.int IntKind.i64 ((k : Int) - a), Value.int IntKind.i64 b, Value.int IntKind.i64 (z - b)] 49) hSt).grown hown2 hgrow2
                obtain ⟨oo2, oc2, rfl⟩ := (holds_of hown2).form
                rw [← chcells_append] at hSt2
                clear hown2 hgrow2 c0
                go_wp2
                go_roundw
                case rel => exact ⟨k + 1, (k : Int) + 1, z + 1, X ++ [⟨a, (k : Int) - a, b, z - b⟩], by omega, ⟨_, _, by rw [List.length_append]; rfl⟩, by go_num, by go_num, by go_num, by omega, by omega, by omega, by omega, by rw [List.length_append]; exact hSt2, by simp; omega, HR⟩
                case measure => simp [intOf]; omega
              · have n6 : b < z := by omega
                go_wp2_with (at_builtin; refine wpList_append_h _ (by kernel_rfl) (.tmp 69) (.tmp 79) 23 49 (.agg #[.int .i64 0, .int .i64 0, .int .i64 0, .int .i64 0]) 4 32 rfl Try.underlying23 infoCh rfl (by decide) (by decide) w.heap.size _ _ _ rfl (hSt.own.alloc _) _ 1 (chcells [⟨a, (k : Int) - a, b, z - b⟩]) rfl (new_holds _ _ _ _ _ (by decide)) rfl (chcells_one _) (by omega) (by simp; omega) ?_)
                intro v2 w2 hown2 hgrow2
                have hSt2 := (st_alloc (Obj.cells #[Value.int IntKind.i64 a, Value.int IntKind.i64 ((k : Int) - a), Value.int IntKind.i64 b, Value.int IntKind.i64 (z - b)] 49) hSt).grown hown2 hgrow2
                obtain ⟨oo2, oc2, rfl⟩ := (holds_of hown2).form
                rw [← chcells_append] at hSt2
                clear hown2 hgrow2 c0
                go_wp2
                go_roundw
                case rel => exact ⟨k + 1, (k : Int) + 1, z + 1, X ++ [⟨a, (k : Int) - a, b, z - b⟩], by omega, ⟨_, _, by rw [List.length_append]; rfl⟩, by go_num, by go_num, by go_num, by omega, by omega, by omega, by omega, by rw [List.length_append]; exact hSt2, by simp; omega, HR⟩
                case measure => simp [intOf]; omega
            · rw [if_neg hcd] at h3
              have HR : Hid ((k + 1 ≤ K.length → Vk (z + 1) m (K.drop (k + 1)) ∧ z + 1 ≤ m ∧ X ++ betw ((k : Int) + 1) (z + 1) (keptR (k + 1 : Nat) (K.drop (k + 1)) ++ [⟨K.length, m, 0⟩]) = L) ∧ (k + 1 = K.length + 1 → X = L)) := ⟨fun _ => ⟨q3, by omega, h3⟩, fun h => by omega⟩
              clear h3 q3
              have n3 : ¬ a < (k : Int) := by omega
              have n4 : ¬ b < z := by omega
              go_wp2
              go_roundw
              case rel => exact ⟨k + 1, (k : Int) + 1, z + 1, X, by omega, ⟨_, _, rfl⟩, by go_num, by go_num, by go_num, by omega, by omega, by omega, by omega, hSt, by omega, HR⟩
              case measure => simp [intOf]; omega
        · by_cases hke : k = K.length
          · have hR' := (hR.out.1 (by omega)).2
            rw [List.drop_of_length_le (by omega), keptR, List.nil_append, betw, betw] at hR'
            dsimp only at hR'
            have HKE : Hid (k = K.length) := hke
            have i2 : ¬ (k : Int) < (K.length : Int) := by omega
            have i3 : (k : Int) ≤ (K.length : Int) := by omega
            have hz2 : decide (m = -1) = false := decide_eq_false (by omega)
            obtain ⟨hbm, h3⟩ := hR'
            rw [← hke] at h3
            clear hR hke
            by_cases hcd : a < (k : Int) ∨ b < m
            · rw [if_pos hcd] at h3
              have HR : Hid ((k + 1 ≤ K.length → Vk (m + 1) m (K.drop (k + 1)) ∧ m + 1 ≤ m ∧ X ++ [⟨a, (k : Int) - a, b, m - b⟩] ++ betw ((k : Int) + 1) (m + 1) (keptR (k + 1 : Nat) (K.drop (k + 1)) ++ [⟨K.length, m, 0⟩]) = L) ∧ (k + 1 = K.length + 1 → X ++ [⟨a, (k : Int) - a, b, m - b⟩] = L)) := ⟨fun h => by have := HKE.out; omega, fun _ => h3⟩
              clear h3
              by_cases hak : a < (k : Int)
              · have n5 : decide (a < (k : Int)) = true := decide_eq_true hak
                go_wp2_with (at_builtin; refine wpList_append_h _ (by kernel_rfl) (.tmp 69) (.tmp 79) 23 49 (.agg #[.int .i64 0, .int .i64 0, .int .i64 0, .int .i64 0]) 4 32 rfl Try.underlying23 infoCh rfl (by decide) (by decide) w.heap.size _ _ _ rfl (hSt.own.alloc _) _ 1 (chcells [⟨a, (k : Int) - a, b, m - b⟩]) rfl (new_holds _ _ _ _ _ (by decide)) rfl (chcells_one _) (by omega) (by simp; omega) ?_)
                intro v2 w2 hown2 hgrow2
                have hSt2 := (st_alloc (Obj.cells #[Value.int IntKind.i64 a, Value.int IntKind.i64 ((k : Int) - a), Value.int IntKind.i64 b, Value.int IntKind.i64 (m - b)] 49) hSt).grown hown2 hgrow2
                obtain ⟨oo2, oc2, rfl⟩ := (holds_of hown2).form
                rw [← chcells_append] at hSt2
                clear hown2 hgrow2
                go_wp2
                go_roundw
                case rel => exact ⟨k + 1, (k : Int) + 1, m + 1, X ++ [⟨a, (k : Int) - a, b, m - b⟩], by omega, ⟨_, _, by rw [List.length_append]; rfl⟩, by go_num, by go_num, by go_num, by omega, by omega, by omega, by omega, by rw [List.length_append]; exact hSt2, by simp; omega, HR⟩
                case measure => simp [intOf]; omega
              · have n6 : b < m := by omega
                go_wp2_with (at_builtin; refine wpList_append_h _ (by kernel_rfl) (.tmp 69) (.tmp 79) 23 49 (.agg #[.int .i64 0, .int .i64 0, .int .i64 0, .int .i64 0]) 4 32 rfl Try.underlying23 infoCh rfl (by decide) (by decide) w.heap.size _ _ _ rfl (hSt.own.alloc _) _ 1 (chcells [⟨a, (k : Int) - a, b, m - b⟩]) rfl (new_holds _ _ _ _ _ (by decide)) rfl (chcells_one _) (by omega) (by simp; omega) ?_)
                intro v2 w2 hown2 hgrow2
                have hSt2 := (st_alloc (Obj.cells #[Value.int IntKind.i64 a, Value.int IntKind.i64 ((k : Int) - a), Value.int IntKind.i64 b, Value.int IntKind.i64 (m - b)] 49) hSt).grown hown2 hgrow2
                obtain ⟨oo2, oc2, rfl⟩ := (holds_of hown2).form
                rw [← chcells_append] at hSt2
                clear hown2 hgrow2
                go_wp2
                go_roundw
                case rel => exact ⟨k + 1, (k : Int) + 1, m + 1, X ++ [⟨a, (k : Int) - a, b, m - b⟩], by omega, ⟨_, _, by rw [List.length_append]; rfl⟩, by go_num, by go_num, by go_num, by omega, by omega, by omega, by omega, by rw [List.length_append]; exact hSt2, by simp; omega, HR⟩
                case measure => simp [intOf]; omega
            · rw [if_neg hcd] at h3
              have HR : Hid ((k + 1 ≤ K.length → Vk (m + 1) m (K.drop (k + 1)) ∧ m + 1 ≤ m ∧ X ++ betw ((k : Int) + 1) (m + 1) (keptR (k + 1 : Nat) (K.drop (k + 1)) ++ [⟨K.length, m, 0⟩]) = L) ∧ (k + 1 = K.length + 1 → X = L)) := ⟨fun h => by have := HKE.out; omega, fun _ => by rw [← h3]; simp⟩
              clear h3
              have n3 : ¬ a < (k : Int) := by omega
              have n4 : ¬ b < m := by omega
              go_wp2
              go_roundw
              case rel => exact ⟨k + 1, (k : Int) + 1, m + 1, X, by omega, ⟨_, _, rfl⟩, by go_num, by go_num, by go_num, by omega, by omega, by omega, by omega, hSt, by omega, HR⟩
              case measure => simp [intOf]; omega
          · obtain rfl : k = K.length + 1 := by omega
            obtain rfl := hR.out.2 rfl
            have i2 : ¬ ((K.length : Int) + 1) ≤ (K.length : Int) := by omega
            go_wp2
            go_ret2
            exact ⟨_, rfl, holds_of hSt.own, hSt.low⟩
end Go.Proofs.Yteplejpbgajecaa

/- The reference's table of lengths, filled: table, walked. -/
namespace Go.Proofs.Yteplejpbgajecaa
open Go.RowKit

theorem infoInts : (Try.prog.info? 22).map (fun i => (i.zero, i.size, i.bytes)) = some (some (.slice none 0 0), 1, 24) := by kernel_rfl
/-- make([]T, n) -/
theorem run_makeN {T E : TypeId} {z : Value} {bytes : Nat} (hT : Try.prog.underlying T = some (.slice E)) (hinfo : (Try.prog.info? E).map (fun i => (i.zero, i.size, i.bytes)) = some (some z, 1, bytes)) (hby : bytes ≤ 32) (n : Int) (N : Nat) (hn : n = (N : Int)) (hN : N ≤ 1099511627776) (W : World) :
    (Instr.makeSlice T (.int .i64 n) (.int .i64 n)).run Try.prog W = .ok (.slice (some ⟨W.heap.size, 0, none⟩) N N) (W.alloc (.cells (madeCells z.cells N) E)) := by
  subst hn
  obtain ⟨i0, hi, hz0, hzs, hz2⟩ := info_parts hinfo
  have h1 : i0.bytes * N ≤ 32 * 1099511627776 := by rw [hz2]; exact Nat.mul_le_mul hby hN
  have hr := run_make (P := Try.prog) W T E i0 z hT hi hz0 .i64 .i64 (N : Int) (N : Int) (by omega) (Int.le_refl _) (by
    have : ((i0.bytes * N : Nat) : Int) ≤ 281474976710656 := by omega
    rwa [Int.natCast_mul] at this) (by omega)
  simpa [hzs] using hr
theorem madeL (z : Value) (N : Nat) : (madeCells #[z] N).toList = List.replicate N z := by
  apply List.ext_getElem
  · simp [madeCells]
  · intro i h1 h2
    simp [madeCells, Nat.mod_one]

/-- where row k lies -/
def rowB (B X k : Nat) : Nat := B + 1 + (X - k)
/-- a row as a value -/
def rowV (B X Y k : Nat) : Value := .slice (some ⟨rowB B X k, 0, none⟩) (Y + 1) (Y + 1)
/-- the state of the walk: rows from i on are made, those behind it are filled, row i from c on -/
structure Tb (w : World) (x y : List Int) (i c : Nat) (TS : List Value) (u : World) : Prop where
  low : Below w.heap.size w u
  size : u.heap.size = w.heap.size + 1 + (x.length + 1 - i)
  top : u.ownsRow w.heap.size 22 1 (.slice (some ⟨w.heap.size, 0, none⟩) (x.length + 1) (x.length + 1)) (x.length + 1) TS
  tops : ∀ k, i ≤ k → k ≤ x.length → TS[k]? = some (rowV w.heap.size x.length y.length k)
  rows : ∀ k, i ≤ k → k ≤ x.length → ∃ R, u.ownsRow w.heap.size 3 1 (rowV w.heap.size x.length y.length k) (y.length + 1) R ∧ ∀ j, j ≤ y.length → (i < k ∨ c ≤ j ∨ j = y.length ∨ k = x.length) → R[j]? = some (.int .i64 ((ln x y k j : Nat) : Int))
section
variable {w u : World} {x y : List Int} {i c : Nat} {TS : List Value}
theorem Tb.drewN (h : Tb w x y i c TS u) (n : Nat) : Tb w x y i c TS (u.drewN n) := ⟨Below.dN h.low n, h.size, h.top, h.tops, h.rows⟩
theorem Tb.top_len (h : Tb w x y i c TS u) : TS.length = x.length + 1 := by rw [h.top.1, Nat.mul_one]
theorem Tb.top_at (h : Tb w x y i c TS u) {k : Nat} (hi : i ≤ k) (hk : k ≤ x.length) : u.cell? ⟨w.heap.size, k, none⟩ = some (rowV w.heap.size x.length y.length k) := by
  rw [h.top.cellAt k (by omega)]
  exact h.tops k hi hk
theorem Tb.at (h : Tb w x y i c TS u) {k j : Nat} (hi : i ≤ k) (hk : k ≤ x.length) (hj : j ≤ y.length) (hc : i < k ∨ c ≤ j ∨ j = y.length ∨ k = x.length) : u.cell? ⟨rowB w.heap.size x.length k, j, none⟩ = some (.int .i64 ((ln x y k j : Nat) : Int)) := by
  obtain ⟨R, hR, hv⟩ := h.rows k hi hk
  unfold rowV at hR
  rw [hR.cellAt j (by omega)]
  exact hv j hj hc
theorem Tb.any_at (h : Tb w x y i c TS u) {j : Nat} (hi : i ≤ x.length) (hj : j ≤ y.length) : (∃ z, u.cell? ⟨rowB w.heap.size x.length i, j, none⟩ = some z) ∧ u.frozen? ⟨rowB w.heap.size x.length i, j, none⟩ = false := by
  obtain ⟨R, hR, hv⟩ := h.rows i (Nat.le_refl _) hi
  unfold rowV at hR
  refine ⟨?_, hR.frozenAt j⟩
  rw [hR.cellAt j (by omega)]
  have : R.length = y.length + 1 := by rw [hR.1, Nat.mul_one]
  exact ⟨R[j], List.getElem?_eq_getElem (by omega)⟩
theorem size_set (W : World) (b o : Nat) (v : Value) : (W.setCell ⟨b, o, none⟩ v).heap.size = W.heap.size := by
  show (W.heap.modify b _).size = _
  simp
theorem Tb.skip (h : Tb w x y i (c + 1) TS u) (hc : c = y.length ∨ i = x.length) : Tb w x y i c TS u := by
  refine ⟨h.low, h.size, h.top, h.tops, fun k h1 h2 => ?_⟩
  obtain ⟨R, hR, hv⟩ := h.rows k h1 h2
  exact ⟨R, hR, fun j hj hq => hv j hj (by omega)⟩
theorem Tb.next (h : Tb w x y (i + 1) 0 TS u) (hi : i ≤ x.length) (hY : y.length ≤ 1048576) : Tb w x y i (y.length + 1) (TS.set i (rowV w.heap.size x.length y.length i)) ((u.alloc (.cells (madeCells #[.int .i64 0] (y.length + 1)) 3)).setCell ⟨w.heap.size, i, none⟩ (rowV w.heap.size x.length y.length i)) := by
  have hsz : u.heap.size = rowB w.heap.size x.length i := by rw [h.size]; unfold rowB; omega
  obtain ⟨p1, g1⟩ := (h.top.alloc (.cells (madeCells #[.int .i64 0] (y.length + 1)) 3)).stored i (rowV w.heap.size x.length y.length i)
  refine ⟨?_, ?_, p1, fun k h1 h2 => ?_, fun k h1 h2 => ?_⟩
  · exact (h.low.alloc h.low.size _).grown g1 (by rw [World.size_alloc]; have := h.low.size; omega) (fun j hj => by cases hj; exact Nat.le_refl _)
  · rw [size_set, World.size_alloc, h.size]
    omega
  · by_cases e : k = i
    · subst e
      rw [List.getElem?_set_self (by rw [h.top_len]; omega)]
    · rw [List.getElem?_set_ne (fun q => e q.symm)]
      exact h.tops k (by omega) h2
  · by_cases e : k = i
    · subst e
      have hn := World.ownsRow_lit (base := w.heap.size) (e := 3) (size := 1) u (madeCells #[.int .i64 0] (y.length + 1)) (y.length + 1) h.low.size (by unfold maxLen; omega) (by rw [size_madeCells]; simp)
      rw [madeL, hsz] at hn
      refine ⟨_, hn.kept g1 (.inr (by simp [Value.ownBlock, rowB]; omega)), fun j hj hq => ?_⟩
      rw [List.getElem?_replicate, if_pos (by omega), ln_end x y k j (by omega)]
      rfl
    · obtain ⟨R, hR, hv⟩ := h.rows k (by omega) h2
      exact ⟨R, (hR.alloc _).kept g1 (.inr (by unfold rowV rowB; simp [Value.ownBlock]; omega)), fun j hj hq => hv j hj (by omega)⟩
theorem Tb.set (h : Tb w x y i (c + 1) TS u) (hi : i ≤ x.length) (hc : c ≤ y.length) (v : Int) (hv : v = ((ln x y i c : Nat) : Int)) : Tb w x y i c TS (u.setCell ⟨rowB w.heap.size x.length i, c, none⟩ (.int .i64 v)) := by
  subst hv
  obtain ⟨R, hR, hr⟩ := h.rows i (Nat.le_refl _) hi
  have hR' := hR
  unfold rowV at hR'
  obtain ⟨p1, g1⟩ := hR'.stored c (.int .i64 ((ln x y i c : Nat) : Int))
  have hl : R.length = y.length + 1 := by rw [hR.1, Nat.mul_one]
  refine ⟨?_, ?_, ?_, h.tops, fun k h1 h2 => ?_⟩
  · exact h.low.grown g1 h.low.size (fun j hj => by cases hj; unfold rowB; omega)
  · rw [size_set, h.size]
  · exact h.top.kept g1 (.inr (by simp [Value.ownBlock, rowB]; omega))
  · by_cases e : k = i
    · subst e
      refine ⟨_, p1, fun j hj hq => ?_⟩
      by_cases q : j = c
      · subst q
        rw [List.getElem?_set_self (by omega)]
      · rw [List.getElem?_set_ne (fun q' => q q'.symm)]
        exact hr j hj (by omega)
    · obtain ⟨R2, hR2, hv2⟩ := h.rows k h1 h2
      exact ⟨R2, hR2.kept g1 (.inr (by unfold rowV rowB; simp [Value.ownBlock]; omega)), fun j hj hq => hv2 j hj (by omega)⟩
end
theorem Tb.start (w : World) (x y : List Int) (hX : x.length ≤ 1048576) : Tb w x y (x.length + 1) 0 (List.replicate (x.length + 1) (.slice none 0 0)) (w.alloc (.cells (madeCells #[.slice none 0 0] (x.length + 1)) 22)) := by
  have hn := World.ownsRow_lit (base := w.heap.size) (e := 22) (size := 1) w (madeCells #[.slice none 0 0] (x.length + 1)) (x.length + 1) (Nat.le_refl _) (by unfold maxLen; omega) (by rw [size_madeCells]; simp)
  rw [madeL] at hn
  exact ⟨(Below.refl _ w).alloc (Nat.le_refl _) _, by simp, hn, fun k h1 h2 => by omega, fun k h1 h2 => by omega⟩
/-- what the table tells -/
structure Rd (B : Nat) (x y : List Int) (u : World) : Prop where
  lt : B + 1 + x.length < u.heap.size
  top : ∀ k, k ≤ x.length → u.cell? ⟨B, k, none⟩ = some (rowV B x.length y.length k)
  at' : ∀ k j, k ≤ x.length → j ≤ y.length → u.cell? ⟨rowB B x.length k, j, none⟩ = some (.int .i64 ((ln x y k j : Nat) : Int))
theorem cell_keep {u u' : World} (h : Below u.heap.size u u') {b o : Nat} {v : Value} (hb : b < u.heap.size) (hc : u.cell? ⟨b, o, none⟩ = some v) : u'.cell? ⟨b, o, none⟩ = some v := by
  rw [← hc]
  unfold World.cell?
  rw [h.block b hb]
theorem Rd.keep {B : Nat} {x y : List Int} {u u' : World} (h : Rd B x y u) (hb : Below u.heap.size u u') : Rd B x y u' := by
  have := h.lt
  refine ⟨Nat.lt_of_lt_of_le h.lt hb.size, fun k hk => cell_keep hb (by omega) (h.top k hk), fun k j hk hj => cell_keep hb ?_ (h.at' k j hk hj)⟩
  unfold rowB
  omega
theorem Tb.rd {w u : World} {x y : List Int} {TS : List Value} (h : Tb w x y 0 0 TS u) : Rd w.heap.size x y u :=
  ⟨by rw [h.size]; omega, fun _ hk => h.top_at (Nat.zero_le _) hk, fun _ _ hk hj => h.at (Nat.zero_le _) hk hj (.inr (.inl (Nat.zero_le _)))⟩

set_option maxRecDepth 10000 in
set_option maxHeartbeats 4000000 in
theorem table_f (x y : List Int) (vx vy : Value) (w : World) (hx : HI w vx x) (hy : HI w vy y) (hxl : x.length ≤ 4096) (hyl : y.length ≤ 4096) :
    Calls Try.prog 66 #[vx, vy] w fun e w' => e = .returned (.slice (some ⟨w.heap.size, 0, none⟩) (x.length + 1) (x.length + 1)) ∧ Rd w.heap.size x y w' ∧ Below w.heap.size w w' := by
  obtain ⟨xo, xc, rfl⟩ := Holds.form hx
  obtain ⟨yo, yc, rfl⟩ := Holds.form hy
  have hmk1 := run_makeN (T := 101) Try.underlying101 infoInts (by decide) ((x.length : Int) + 1) (x.length + 1) (by simp) (by omega)
  have hmk2 := run_makeN (T := 22) Try.underlying22 infoInt (by decide) ((y.length : Int) + 1) (y.length + 1) (by simp) (by omega)
  have hst := Tb.start w x y (by omega)
  go_enter Try.func66, Try.ntmps66
  go_wp2
  go_loopw [6] (fun iv wr => ∃ (k : Nat) (z : Int) (TS : List Value), k ≤ x.length + 1 ∧ iv = .int .i64 z ∧ z + 1 = k ∧ Tb w x y k 0 TS wr) (fun iv _ => (intOf iv + 1).toNat)
  case atStart => exact ⟨x.length + 1, (x.length : Int), _, Nat.le_refl _, rfl, by simp, hst⟩
  case round =>
    clear hst hmk1
    obtain ⟨k, z, TS, hk, rfl, hz, hS⟩ := hrel
    cases k with
    | zero =>
      obtain rfl : z = -1 := by omega
      go_wp2
      go_ret
      exact ⟨rfl, hS.rd, hS.low⟩
    | succ i =>
      obtain rfl : z = (i : Int) := by omega
      clear hz
      have c0 := hS.top.cellAt i (by omega)
      rw [List.getElem?_eq_getElem (by rw [hS.top_len]; omega)] at c0
      obtain ⟨z0, hz0⟩ : ∃ z, TS[i]'(by rw [hS.top_len]; omega) = z := ⟨_, rfl⟩
      rw [hz0] at c0
      have f0 := hS.top.frozenAt i
      clear hz0
      have i1 : 0 ≤ (i : Int) := by omega
      have i2 : (i : Int) < (x.length : Int) + 1 := by omega
      have hsz : wr.heap.size = rowB w.heap.size x.length i := by rw [hS.size]; unfold rowB; omega
      have hN := hS.next (by omega) (by omega)
      unfold rowV at hN
      have c0' : (wr.alloc (Obj.cells (madeCells #[Value.int IntKind.i64 0] (y.length + 1)) 3)).cell? ⟨w.heap.size, i, none⟩ = some z0 := cell_keep ((Below.refl _ wr).alloc (Nat.le_refl _) _) (by rw [hS.size]; omega) c0
      have f0' : (wr.alloc (Obj.cells (madeCells #[Value.int IntKind.i64 0] (y.length + 1)) 3)).frozen? ⟨w.heap.size, i, none⟩ = false := (hS.top.alloc _).frozenAt i
      clear c0 f0
      go_wp2
      go_loopw [7] (fun jv wi => ∃ (c : Nat) (z : Int) (TS' : List Value), c ≤ y.length + 1 ∧ jv = .int .i64 z ∧ z + 1 = c ∧ Tb w x y i c TS' wi) (fun jv _ => (intOf jv + 1).toNat)
      case atStart => exact ⟨y.length + 1, (y.length : Int), _, Nat.le_refl _, rfl, by simp, hN⟩
      case round =>
        clear hS c0' f0' hN hsz hmk2
        obtain ⟨c, z, TS', hc, rfl, hz, hS⟩ := hrel
        cases c with
        | zero =>
          obtain rfl : z = -1 := by omega
          go_wp2
          go_roundw
          case rel => exact ⟨i, (i : Int) - 1, TS', by omega, by go_num, by omega, hS⟩
          case measure => simp [intOf]
        | succ j =>
          obtain rfl : z = (j : Int) := by omega
          clear hz
          by_cases he : i = x.length
          · have hS' := hS.skip (.inr he)
            have he' : decide ((i : Int) = (x.length : Int)) = true := decide_eq_true (by omega)
            clear i2
            go_wp2
            go_roundw
            case rel => exact ⟨j, (j : Int) - 1, TS', by omega, by go_num, by omega, hS'⟩
            case measure => simp [intOf]
          · have he' : ((i : Int) == (x.length : Int)) = false := by simp; omega
            by_cases hf : j = y.length
            · have hS' := hS.skip (.inl hf)
              have hf' : decide ((j : Int) = (y.length : Int)) = true := decide_eq_true (by omega)
              go_wp2
              go_roundw
              case rel => exact ⟨j, (j : Int) - 1, TS', by omega, by go_num, by omega, hS'⟩
              case measure => simp [intOf]; omega
            · have hf' : ((j : Int) == (y.length : Int)) = false := by simp; omega
              obtain ⟨bx, ox, rfl, _, hcx⟩ := HI.at (HI.keep hx hS.low (Nat.le_refl _)) (by omega)
              obtain ⟨by', oy, rfl, _, hcy⟩ := HI.at (HI.keep hy hS.low (Nat.le_refl _)) (by omega)
              have d1 := hcx i (by omega)
              have d2 := hcy j (by omega)
              have hln := ln_step x y i j (by omega) (by omega)
              obtain ⟨xi, hxi⟩ : ∃ z, x[i] = z := ⟨_, rfl⟩
              obtain ⟨yj, hyj⟩ : ∃ z, y[j] = z := ⟨_, rfl⟩
              rw [hxi] at d1 hln
              rw [hyj] at d2 hln
              clear hcx hcy hxi hyj
              have t1 := hS.top_at (k := i) (Nat.le_refl _) (by omega)
              have t2 := hS.top_at (k := i + 1) (by omega) (by omega)
              have r1 := hS.at (k := i + 1) (j := j + 1) (by omega) (by omega) (by omega) (by omega)
              have r2 := hS.at (k := i + 1) (j := j) (by omega) (by omega) (by omega) (by omega)
              have r3 := hS.at (k := i) (j := j + 1) (by omega) (by omega) (by omega) (by omega)
              obtain ⟨⟨z0, c0⟩, f0⟩ := hS.any_at (j := j) (by omega) (by omega)
              unfold rowV at t1 t2
              have hgen : ∀ (n : Nat) (v : Int), v = ((ln x y i j : Nat) : Int) → Tb w x y i j TS' ((wr.drewN n).setCell ⟨rowB w.heap.size x.length i, j, none⟩ (.int .i64 v)) := fun n v hv => (hS.drewN n).set (by omega) (by omega) v hv
              have HLN : Hid (ln x y i j = if xi = yj then ln x y (i + 1) (j + 1) + 1 else max (ln x y (i + 1) j) (ln x y i (j + 1))) := hln
              have b1 := ln_le x y (i + 1) (j + 1)
              have b2 := ln_le x y (i + 1) j
              have b3 := ln_le x y i (j + 1)
              clear hln
              have j1 : 0 ≤ (j : Int) := by omega
              have j2 : (j : Int) < (y.length : Int) := by omega
              have j3 : (j : Int) + 1 < (y.length : Int) + 1 := by omega
              have j4 : (j : Int) < (y.length : Int) + 1 := by omega
              have i3 : (i : Int) + 1 < (x.length : Int) + 1 := by omega
              have i4 : (i : Int) < (x.length : Int) := by omega
              generalize rowB w.heap.size x.length i = gi at *
              generalize rowB w.heap.size x.length (i + 1) = gj at *
              by_cases hxy : xi = yj
              · have HL : Hid (ln x y i j = ln x y (i + 1) (j + 1) + 1) := (by show _ = _; rw [HLN.out, if_pos hxy])
                clear HLN r2 r3 b2 b3
                generalize ln x y (i + 1) (j + 1) = a1 at *
                have hxy' : decide (xi = yj) = true := decide_eq_true hxy
                go_wp2_with fail
                go_quiet (fail)
                go_wp2_with fail
                go_region
                go_wp2
                exact ⟨⟨j, (j : Int) - 1, TS', by omega, by go_num, by omega, hgen _ _ (by rw [HL.out]; simp)⟩, by simp [intOf]⟩
              · have HL : Hid (ln x y i j = max (ln x y (i + 1) j) (ln x y i (j + 1))) := (by show _ = _; rw [HLN.out, if_neg hxy])
                clear HLN r1 b1
                have hxy' : decide (xi = yj) = false := decide_eq_false hxy
                generalize ln x y (i + 1) j = a1 at *
                generalize ln x y i (j + 1) = a2 at *
                go_wp2_with fail
                go_quiet (fail)
                go_wp2_with fail
                go_region
                go_wp2
                exact ⟨⟨j, (j : Int) - 1, TS', by omega, by go_num, by omega, hgen _ _ (by rw [HL.out]; split <;> omega)⟩, by simp [intOf]⟩
end Go.Proofs.Yteplejpbgajecaa

/- None of the reference, walked. -/
namespace Go.Proofs.Yteplejpbgajecaa
open Go.RowKit

set_option maxRecDepth 10000 in
theorem None_f (n : Nat) (w : World) (hn : n ≤ 1048576) :
    Calls Try.prog 31 #[.int .i64 (n : Int)] w fun e w' => e = .returned (.slice (some ⟨w.heap.size, 0, none⟩) n n) ∧ w'.ownsRow w.heap.size 3 1 (.slice (some ⟨w.heap.size, 0, none⟩) n n) n (icells (List.replicate n (-1))) ∧ Below w.heap.size w w' := by
  have hmk := run_makeN (T := 22) Try.underlying22 infoInt (by decide) (n : Int) n rfl (by omega)
  have hrow := World.ownsRow_lit (base := w.heap.size) (e := 3) (size := 1) w (madeCells #[.int .i64 0] n) n (Nat.le_refl _) (by unfold maxLen; omega) (by rw [size_madeCells]; simp)
  rw [madeL] at hrow
  go_enter Try.func31, Try.ntmps31
  go_wp2
  go_loopw [4] (fun iv wr => ∃ (i : Nat) (xs : List Int), i ≤ n ∧ iv = .int .i64 i ∧ wr.ownsRow w.heap.size 3 1 (.slice (some ⟨w.heap.size, 0, none⟩) n n) n (icells xs) ∧ Below w.heap.size w wr ∧ Hid (xs.take i = List.replicate i (-1))) (fun iv _ => n - (intOf iv).toNat)
  case atStart => exact ⟨0, List.replicate n 0, Nat.zero_le _, rfl, by simpa [icells] using hrow, (Below.refl _ w).alloc (Nat.le_refl _) _, by show _ = _; simp⟩
  case round =>
    clear hmk hrow
    obtain ⟨i, xs, hi, rfl, hO, hB, HX⟩ := hrel
    have hxs : xs.length = n := by have := hO.1; rw [icells_length, Nat.mul_one] at this; exact this
    have hs := hB.size
    by_cases hil : i < n
    · have y0 := hO.cellAt i (by omega)
      rw [List.getElem?_eq_getElem (by rw [icells_length]; omega)] at y0
      have f0 := hO.frozenAt i
      obtain ⟨p1, g1⟩ := hO.stored i (.int .i64 (-1))
      have e : (icells xs).set i (.int .i64 (-1)) = icells (xs.set i (-1)) := by simp [icells, List.map_set]
      rw [e] at p1
      have hB' : Below w.heap.size w (wr.setCell ⟨w.heap.size, i, none⟩ (.int .i64 (-1))) := hB.grown g1 hs (fun j hj => owns_ge hO (by simpa [Value.ownBlock] using hj))
      have HX2 : Hid ((xs.set i (-1)).take (i + 1) = List.replicate (i + 1) (-1)) := (by
        show _ = _
        rw [List.take_succ_eq_append_getElem (by rw [List.length_set]; omega), List.getElem_set_self, List.take_set_of_le (Nat.le_refl _), HX.out, List.replicate_succ'])
      clear e HX
      have i1 : 0 ≤ (i : Int) := by omega
      have i2 : (i : Int) < (n : Int) := by omega
      go_wp2
      go_roundw
      case rel => exact ⟨i + 1, _, by omega, by go_num, p1, hB', HX2⟩
      case measure => simp [intOf]; omega
    · obtain rfl : i = n := by omega
      have e : xs = List.replicate i (-1) := by
        have := HX.out
        rw [List.take_of_length_le (by omega)] at this
        exact this
      rw [e] at hO
      clear e HX hxs
      go_wp2
      go_ret
      exact ⟨rfl, hO, hB⟩
end Go.Proofs.Yteplejpbgajecaa

/- The reference's Trim, walked. -/
namespace Go.Proofs.Yteplejpbgajecaa
open Go.RowKit

/-- a piece as a value, in a box -/
def pcV (a b c d : Nat) : Value := .agg #[.int .i64 a, .int .i64 b, .int .i64 c, .int .i64 d]
def Pbox (u : World) (B : Nat) (a b c d : Nat) : Prop := u.heap[B]? = some (.cells #[.int .i64 (a : Int), .int .i64 (b : Int), .int .i64 (c : Int), .int .i64 (d : Int)] 58 (0, 0))
theorem Pbox.cells {u : World} {B a b c d : Nat} (h : Pbox u B a b c d) : u.cell? ⟨B, 0, none⟩ = some (.int .i64 (a : Int)) ∧ u.cell? ⟨B, 1, none⟩ = some (.int .i64 (b : Int)) ∧ u.cell? ⟨B, 2, none⟩ = some (.int .i64 (c : Int)) ∧ u.cell? ⟨B, 3, none⟩ = some (.int .i64 (d : Int)) := by
  refine ⟨?_, ?_, ?_, ?_⟩ <;> rw [Lib.cell_of_heap h] <;> rfl
theorem Pbox.frozen {u : World} {B a b c d : Nat} (h : Pbox u B a b c d) (j : Nat) : u.frozen? ⟨B, j, none⟩ = false := by
  unfold World.frozen?
  rw [h]
  rfl
/-- the row of what is kept, and a piece beside it -/
structure Tr (W0 : World) (n : Nat) (K : List Int) (B a b c d : Nat) (u : World) : Prop where
  ls : Ls W0 W0.heap.size n K u
  box : Pbox u B a b c d
  ge : W0.heap.size < B
section
variable {W0 : World} {n : Nat} {K : List Int} {B a b c d : Nat} {u : World}
theorem Tr.put (h : Tr W0 n K B a b c d u) (i : Nat) (z : Int) : Tr W0 n (K.set i z) B a b c d (u.setCell ⟨W0.heap.size, i, none⟩ (.int .i64 z)) :=
  ⟨h.ls.set i z, (heap_setCell_other u _ B _ (fun e => by have := h.ge; simp at e; omega)).trans h.box, h.ge⟩
theorem Tr.set0 (h : Tr W0 n K B a b c d u) (a' : Nat) (z : Int) (hz : z = a') : Tr W0 n K B a' b c d (u.setCell ⟨B, 0, none⟩ (.int .i64 z)) := by subst hz; exact ⟨ls_other h.ls (Nat.ne_of_lt h.ge) (Nat.le_of_lt h.ge) _ _, heap_setCell_same u B 0 _ _ _ h.box, h.ge⟩
theorem Tr.set1 (h : Tr W0 n K B a b c d u) (b' : Nat) (z : Int) (hz : z = b') : Tr W0 n K B a b' c d (u.setCell ⟨B, 1, none⟩ (.int .i64 z)) := by subst hz; exact ⟨ls_other h.ls (Nat.ne_of_lt h.ge) (Nat.le_of_lt h.ge) _ _, heap_setCell_same u B 1 _ _ _ h.box, h.ge⟩
theorem Tr.set2 (h : Tr W0 n K B a b c d u) (c' : Nat) (z : Int) (hz : z = c') : Tr W0 n K B a b c' d (u.setCell ⟨B, 2, none⟩ (.int .i64 z)) := by subst hz; exact ⟨ls_other h.ls (Nat.ne_of_lt h.ge) (Nat.le_of_lt h.ge) _ _, heap_setCell_same u B 2 _ _ _ h.box, h.ge⟩
theorem Tr.set3 (h : Tr W0 n K B a b c d u) (d' : Nat) (z : Int) (hz : z = d') : Tr W0 n K B a b c d' (u.setCell ⟨B, 3, none⟩ (.int .i64 z)) := by subst hz; exact ⟨ls_other h.ls (Nat.ne_of_lt h.ge) (Nat.le_of_lt h.ge) _ _, heap_setCell_same u B 3 _ _ _ h.box, h.ge⟩
theorem Tr.at (h : Tr W0 n K B a b c d u) {i : Nat} (hi : i < n) : ∃ z, u.cell? ⟨W0.heap.size, i, none⟩ = some (.int .i64 z) ∧ u.frozen? ⟨W0.heap.size, i, none⟩ = false := by
  have hl := h.ls.len
  exact ⟨K[i], h.ls.at (List.getElem?_eq_getElem (by omega)), h.ls.own.frozenAt i⟩
theorem Tr.drewN (h : Tr W0 n K B a b c d u) (k : Nat) : Tr W0 n K B a b c d (u.drewN k) := ⟨h.ls.drewN k, h.box, h.ge⟩
end

set_option maxRecDepth 10000 in
set_option maxHeartbeats 4000000 in
theorem Trim_f (x y : List Int) (W0 w : World) (vx vy : Value) (hx : HI W0 vx x) (hy : HI W0 vy y) (hxl : x.length ≤ 4096) (hyl : y.length ≤ 4096) (K : List Int) (hS : Ls W0 W0.heap.size x.length K w) (a b c d : Nat) (hab : a ≤ b) (hb : b ≤ x.length) (hcd : c ≤ d) (hd : d ≤ y.length) (hg : W0.heap.size < w.heap.size) :
    Calls Try.prog 32 #[.slice (some ⟨W0.heap.size, 0, none⟩) x.length x.length, vx, vy, pcV a b c d] w fun e w' => ∃ k m, k = tf x y a b c d ∧ m = tb x y (a + k) b (c + k) d ∧ e = .returned (pcV (a + k) (b - m) (c + k) (d - m)) ∧ Ls W0 W0.heap.size x.length (wrk K (fp a c k ++ bp b d m)) w' ∧ w.grownBy w' (some W0.heap.size) := by
  obtain ⟨xo, xc, rfl⟩ := Holds.form hx
  obtain ⟨yo, yc, rfl⟩ := Holds.form hy
  obtain ⟨k, hk⟩ : ∃ k, tf x y a b c d = k := ⟨_, rfl⟩
  obtain ⟨m, hm⟩ : ∃ m, tb x y (a + k) b (c + k) d = m := ⟨_, rfl⟩
  have hkl := tf_le x y a b c d
  have hml := tb_le x y (a + k) b (c + k) d
  rw [hk] at hkl
  rw [hm] at hml
  obtain ⟨KF, hKF⟩ : ∃ KF, wrk K (fp a c k) = KF := ⟨_, rfl⟩
  obtain ⟨A1, hA1⟩ : ∃ A1, a + k = A1 := ⟨_, rfl⟩
  obtain ⟨C1, hC1⟩ : ∃ C1, c + k = C1 := ⟨_, rfl⟩
  have HK : Hid (a + tf x y a b c d = A1 ∧ c + tf x y a b c d = C1 ∧ wrk K (fp a c (tf x y a b c d)) = KF) := ⟨by rw [hk, hA1], by rw [hk, hC1], by rw [hk, hKF]⟩
  have HM : Hid (tb x y A1 b C1 d = m) := (by rw [hA1, hC1] at hm; exact hm)
  have HFin : Hid (k = tf x y a b c d ∧ m = tb x y (a + k) b (c + k) d ∧ A1 = a + k ∧ C1 = c + k ∧ wrk KF (bp b d m) = wrk K (fp a c k ++ bp b d m)) := ⟨hk.symm, hm.symm, hA1.symm, hC1.symm, by rw [wrk_append, hKF]⟩
  have hAb : A1 ≤ b ∧ C1 ≤ d ∧ m ≤ b - A1 ∧ m ≤ d - C1 := by omega
  obtain ⟨hAb, hCd, hmb, hmd⟩ := hAb
  clear hk hm hKF hkl hml hA1 hC1
  have hT0 : Tr W0 x.length K w.heap.size a b c d ((w.alloc (.cells #[.int .i64 a, .int .i64 b, .int .i64 c, .int .i64 d] 58)).alloc (.cells #[.int .i64 0, .int .i64 0, .int .i64 0, .int .i64 0] 58)) :=
    ⟨hS.keep (((Below.refl _ w).alloc (Nat.le_refl _) _).alloc (by simp) _), (Below.heap_alloc _ _ _ (by simp)).trans (_root_.Go.heap_alloc_new w _), hg⟩
  have hR0 := alloc_second w (.cells #[.int .i64 a, .int .i64 b, .int .i64 c, .int .i64 d] 58) (.cells #[.int .i64 0, .int .i64 0, .int .i64 0, .int .i64 0] 58)
  have hG0 : w.grownBy ((w.alloc (.cells #[.int .i64 a, .int .i64 b, .int .i64 c, .int .i64 d] 58)).alloc (.cells #[.int .i64 0, .int .i64 0, .int .i64 0, .int .i64 0] 58)) (some W0.heap.size) := low_grown (((Below.refl _ w).alloc (Nat.le_refl _) _).alloc (by simp) _) _
  have hgB : W0.heap.size ≠ w.heap.size := by omega
  have hBg : w.heap.size ≠ W0.heap.size := by omega
  unfold pcV
  go_enter Try.func32, Try.ntmps32
  go_wp2
  go_loopw [] (fun wr => ∃ (a' c' : Nat) (K' : List Int), a' ≤ b ∧ c' ≤ d ∧ Tr W0 x.length K' w.heap.size a' b c' d wr ∧ wr.heap[w.heap.size + 1]? = some (.cells #[.int .i64 0, .int .i64 0, .int .i64 0, .int .i64 0] 58 (0, 0)) ∧ w.grownBy wr (some W0.heap.size) ∧ Hid (a' + tf x y a' b c' d = A1 ∧ c' + tf x y a' b c' d = C1 ∧ wrk K' (fp a' c' (tf x y a' b c' d)) = KF)) (fun wr => b - (intOf ((wr.cell? ⟨w.heap.size, 0, none⟩).getD undef)).toNat)
  case atStart => exact ⟨a, c, K, hab, hcd, hT0, hR0, hG0, HK⟩
  case round =>
    clear hT0 hR0 hG0 HK hS
    obtain ⟨a', c', K', ha', hc', hT, hR, hG, HV⟩ := hrel
    obtain ⟨c0, c1, c2, c3⟩ := hT.box.cells
    obtain ⟨r, hr⟩ : ∃ r, decide (a' < b ∧ c' < d ∧ x[a']? = y[c']?) = r := ⟨_, rfl⟩
    have HRr : Hid (decide (a' < b ∧ c' < d ∧ x[a']? = y[c']?) = r) := hr
    clear hr
    have hlow := hT.ls.low
    have a1 : 0 ≤ (a' : Int) := by omega
    have c4 : 0 ≤ (c' : Int) := by omega
    go_wp2_with fail
    go_cut [33] from 9 to 47 (fun z wz => z = .bool r ∧ ∃ q, wz = wr.drewN q)
    case first =>
      by_cases h1 : a' < b
      · have e1 : decide ((a' : Int) < (b : Int)) = true := decide_eq_true (by omega)
        by_cases h2 : c' < d
        · have e2 : decide ((c' : Int) < (d : Int)) = true := decide_eq_true (by omega)
          obtain ⟨xb, xf, rfl, _, hcx⟩ := HI.at (HI.keep hx hlow (Nat.le_refl _)) (by omega)
          obtain ⟨yb, yf, rfl, _, hcy⟩ := HI.at (HI.keep hy hlow (Nat.le_refl _)) (by omega)
          have x0 := hcx a' (by omega)
          have y0 := hcy c' (by omega)
          obtain ⟨zx, hzx⟩ : ∃ z, x[a'] = z := ⟨_, rfl⟩
          obtain ⟨zy, hzy⟩ : ∃ z, y[c'] = z := ⟨_, rfl⟩
          rw [hzx] at x0
          rw [hzy] at y0
          have a2 : (a' : Int) < (x.length : Int) := by omega
          have c5 : (c' : Int) < (y.length : Int) := by omega
          have e3 : (zx == zy) = r := by
            rw [← HRr.out, List.getElem?_eq_getElem (by omega), List.getElem?_eq_getElem (by omega), hzx, hzy]
            by_cases q : zx = zy <;> simp [h1, h2, q]
          clear hcx hcy hzx hzy HRr
          go_big_quiet (fail)
          go_wp2
          go_meet
          case rel => exact ⟨rfl, _, rfl⟩
        · have e2 : decide ((c' : Int) < (d : Int)) = false := decide_eq_false (by omega)
          obtain rfl : r = false := by rw [← HRr.out]; simp [h2]
          go_big_quiet (fail)
          go_wp2
          go_meet
          case rel => exact ⟨rfl, _, rfl⟩
      · have e1 : decide ((a' : Int) < (b : Int)) = false := decide_eq_false (by omega)
        obtain rfl : r = false := by rw [← HRr.out]; simp [h1]
        go_big_quiet (fail)
        go_wp2
        go_meet
        case rel => exact ⟨rfl, _, rfl⟩
    case rest =>
      obtain ⟨rfl, q, rfl⟩ := hcut
      have hTq := hT.drewN q
      have hGq := grown_drewN hG q
      have hRq : (wr.drewN q).heap[w.heap.size + 1]? = some (.cells #[.int .i64 0, .int .i64 0, .int .i64 0, .int .i64 0] 58 (0, 0)) := hR
      have cw := c0
      clear c0 c1 c2 c3 hT hG hR hlow
      generalize wr.drewN q = u0 at hTq hGq hRq ⊢
      obtain ⟨c0, c1, c2, c3⟩ := hTq.box.cells
      have f0 := hTq.box.frozen
      cases r with
      | true =>
        have hh := of_decide_eq_true HRr.out
        obtain ⟨h1, h2, h3⟩ := hh
        have HV2 : Hid (a' + 1 + tf x y (a' + 1) b (c' + 1) d = A1 ∧ c' + 1 + tf x y (a' + 1) b (c' + 1) d = C1 ∧ wrk (K'.set a' (c' : Int)) (fp (a' + 1) (c' + 1) (tf x y (a' + 1) b (c' + 1) d)) = KF) := (by
          have := HV.out
          rw [tf_eq, if_pos ⟨h1, h2, h3⟩, fp, wrk_cons] at this
          obtain ⟨q1, q2, q3⟩ := this
          exact ⟨by omega, by omega, by simpa using q3⟩)
        clear HV h3 HRr
        obtain ⟨z0, y0, g0⟩ := hTq.at (i := a') (by omega)
        have hT1 := hTq.put a' (c' : Int)
        have hT2 := hT1.set0 (a' + 1) ((a' : Int) + 1) (by omega)
        have hT3 := hT2.set2 (c' + 1) ((c' : Int) + 1) (by omega)
        obtain ⟨d0, d1, d2, d3⟩ := hT1.box.cells
        have f1 := hT1.box.frozen
        obtain ⟨e0, e1, e2, e3⟩ := hT2.box.cells
        have f2 := hT2.box.frozen
        have hG3 := grown_new (grown_new (hGq.trans (grown_set u0 W0.heap.size a' (.int .i64 (c' : Int)))) (Nat.le_refl _) 0 (.int .i64 ((a' : Int) + 1))) (Nat.le_refl _) 2 (.int .i64 ((c' : Int) + 1))
        have a2 : (a' : Int) < (x.length : Int) := by omega
        go_wp2
        refine ⟨⟨a' + 1, c' + 1, _, h1, h2, hT3, (heap_setCell_other _ _ _ _ (by simp)).trans ((heap_setCell_other _ _ _ _ (by simp)).trans ((heap_setCell_other _ _ _ _ (by simp; omega)).trans hRq)), hG3, HV2⟩, ?_⟩
        rw [cw, hT3.box.cells.1]
        simp [intOf]
        omega
      | false =>
        have hh := of_decide_eq_false HRr.out
        have hz : tf x y a' b c' d = 0 := by rw [tf_eq, if_neg hh]
        obtain ⟨q1, q2, q3⟩ := HV.out
        rw [hz] at q1 q2 q3
        have q3' : K' = KF := q3
        obtain rfl : A1 = a' := by omega
        obtain rfl : C1 = c' := by omega
        subst q3'
        clear hh hz q1 q2 q3 HV HRr cw
        go_wp2
        go_loopw [] (fun wr => ∃ (b' d' : Nat) (K2 : List Int), A1 ≤ b' ∧ b' ≤ b ∧ C1 ≤ d' ∧ d' ≤ d ∧ Tr W0 x.length K2 w.heap.size (A1) b' (C1) d' wr ∧ wr.heap[w.heap.size + 1]? = some (.cells #[.int .i64 0, .int .i64 0, .int .i64 0, .int .i64 0] 58 (0, 0)) ∧ w.grownBy wr (some W0.heap.size) ∧ Hid (b' - tb x y (A1) b' (C1) d' = b - m ∧ d' - tb x y (A1) b' (C1) d' = d - m ∧ wrk K2 (bp b' d' (tb x y (A1) b' (C1) d')) = wrk K' (bp b d m))) (fun wr => (intOf ((wr.cell? ⟨w.heap.size, 1, none⟩).getD undef)).toNat)
        case atStart => exact ⟨b, d, K', by omega, Nat.le_refl _, by omega, Nat.le_refl _, hTq, hRq, hGq, ⟨by rw [HM.out], by rw [HM.out], by rw [HM.out]⟩⟩
        case round =>
          clear hTq hRq hGq c0 c1 c2 c3 f0 HM
          obtain ⟨b', d', K2, hb1, hb2, hd1, hd2, hT, hR, hG, HV⟩ := hrel
          obtain ⟨c0, c1, c2, c3⟩ := hT.box.cells
          obtain ⟨r, hr⟩ : ∃ r, decide (A1 < b' ∧ C1 < d' ∧ x[b' - 1]? = y[d' - 1]?) = r := ⟨_, rfl⟩
          have HRr : Hid (decide (A1 < b' ∧ C1 < d' ∧ x[b' - 1]? = y[d' - 1]?) = r) := hr
          clear hr
          have hlow := hT.ls.low
          have a1' : 0 ≤ (b' : Int) - 1 ∨ b' = 0 := by omega
          go_wp2_with fail
          go_cut [74] from 48 to 90 (fun z wz => z = .bool r ∧ ∃ q, wz = wr.drewN q)
          case first =>
            by_cases h1 : A1 < b'
            · have e1 : decide ((A1 : Int) < (b' : Int)) = true := decide_eq_true (by omega)
              by_cases h2 : C1 < d'
              · have e2 : decide ((C1 : Int) < (d' : Int)) = true := decide_eq_true (by omega)
                obtain ⟨xb, xf, rfl, _, hcx⟩ := HI.at (HI.keep hx hlow (Nat.le_refl _)) (by omega)
                obtain ⟨yb, yf, rfl, _, hcy⟩ := HI.at (HI.keep hy hlow (Nat.le_refl _)) (by omega)
                obtain ⟨b2, rfl⟩ : ∃ b2, b' = b2 + 1 := ⟨b' - 1, by omega⟩
                obtain ⟨d2, rfl⟩ : ∃ d2, d' = d2 + 1 := ⟨d' - 1, by omega⟩
                rw [Nat.add_sub_cancel, Nat.add_sub_cancel] at HRr
                have c1' : wr.cell? ⟨w.heap.size, 1, none⟩ = some (.int .i64 ((b2 : Int) + 1)) := c1
                have c3' : wr.cell? ⟨w.heap.size, 3, none⟩ = some (.int .i64 ((d2 : Int) + 1)) := c3
                have e1' : decide ((A1 : Int) < (b2 : Int) + 1) = true := decide_eq_true (by omega)
                have e2' : decide ((C1 : Int) < (d2 : Int) + 1) = true := decide_eq_true (by omega)
                clear c1 c3 e1 e2
                have x0 := hcx b2 (by omega)
                have y0 := hcy d2 (by omega)
                obtain ⟨zx, hzx⟩ : ∃ z, x[b2] = z := ⟨_, rfl⟩
                obtain ⟨zy, hzy⟩ : ∃ z, y[d2] = z := ⟨_, rfl⟩
                rw [hzx] at x0
                rw [hzy] at y0
                have n1 : ((b2 + 1 : Nat) : Int) - 1 = (b2 : Int) := by omega
                have n2 : ((d2 + 1 : Nat) : Int) - 1 = (d2 : Int) := by omega
                have n3 : (b2 : Int) + 1 - 1 = (b2 : Int) := by omega
                have n4 : (d2 : Int) + 1 - 1 = (d2 : Int) := by omega
                have n5 : IntKind.i64.wrap ((b2 : Int) + 1 - 1) = (b2 : Int) := by rw [IntKind.wrap_i64]; omega
                have n6 : IntKind.i64.wrap ((d2 : Int) + 1 - 1) = (d2 : Int) := by rw [IntKind.wrap_i64]; omega
                have n7 : IntKind.i64.wrap (b2 : Int) = (b2 : Int) := by rw [IntKind.wrap_i64]; omega
                have n8 : IntKind.i64.wrap (d2 : Int) = (d2 : Int) := by rw [IntKind.wrap_i64]; omega
                have a3 : 0 ≤ (b2 : Int) := by omega
                have c6 : 0 ≤ (d2 : Int) := by omega
                have a2 : (b2 : Int) < (x.length : Int) := by omega
                have c5 : (d2 : Int) < (y.length : Int) := by omega
                have e3 : (zx == zy) = r := by
                  rw [← HRr.out, List.getElem?_eq_getElem (by omega), List.getElem?_eq_getElem (by omega), hzx, hzy]
                  by_cases q : zx = zy <;> simp [h1, h2, q]
                clear hcx hcy hzx hzy HRr
                go_big_quiet (fail)
                go_wp2
                go_meet
                case rel => exact ⟨rfl, _, rfl⟩
              · have e2 : decide ((C1 : Int) < (d' : Int)) = false := decide_eq_false (by omega)
                obtain rfl : r = false := by rw [← HRr.out]; simp [h2]
                go_big_quiet (fail)
                go_wp2
                go_meet
                case rel => exact ⟨rfl, _, rfl⟩
            · have e1 : decide ((A1 : Int) < (b' : Int)) = false := decide_eq_false (by omega)
              obtain rfl : r = false := by rw [← HRr.out]; simp [h1]
              go_big_quiet (fail)
              go_wp2
              go_meet
              case rel => exact ⟨rfl, _, rfl⟩
          case rest =>
            obtain ⟨rfl, q, rfl⟩ := hcut
            have hTq := hT.drewN q
            have hGq := grown_drewN hG q
            have hRq : (wr.drewN q).heap[w.heap.size + 1]? = some (.cells #[.int .i64 0, .int .i64 0, .int .i64 0, .int .i64 0] 58 (0, 0)) := hR
            have cw := c1
            clear c0 c1 c2 c3 hT hG hR hlow
            generalize wr.drewN q = u1 at hTq hGq hRq ⊢
            obtain ⟨c0, c1, c2, c3⟩ := hTq.box.cells
            have f0 := hTq.box.frozen
            cases r with
            | true =>
              have hh := of_decide_eq_true HRr.out
              obtain ⟨h1, h2, h3⟩ := hh
              obtain ⟨b2, rfl⟩ : ∃ b2, b' = b2 + 1 := ⟨b' - 1, by omega⟩
              obtain ⟨d2, rfl⟩ : ∃ d2, d' = d2 + 1 := ⟨d' - 1, by omega⟩
              have HV2 : Hid (b2 - tb x y A1 b2 C1 d2 = b - m ∧ d2 - tb x y A1 b2 C1 d2 = d - m ∧ wrk (K2.set b2 (d2 : Int)) (bp b2 d2 (tb x y A1 b2 C1 d2)) = wrk K' (bp b d m)) := (by
                have := HV.out
                rw [tb, if_pos ⟨h1, h2, h3⟩, Nat.add_sub_cancel, Nat.add_sub_cancel, bp, wrk_cons, Nat.add_sub_cancel, Nat.add_sub_cancel] at this
                obtain ⟨q1, q2, q3⟩ := this
                exact ⟨by omega, by omega, by simpa using q3⟩)
              clear HV h3 HRr
              obtain ⟨z0, y0, g0⟩ := hTq.at (i := b2) (by omega)
              have hT1 := hTq.put b2 (d2 : Int)
              have hT2 := hT1.set1 b2 (b2 : Int) rfl
              have hT3 := hT2.set3 d2 (d2 : Int) rfl
              have k1 : u1.cell? ⟨w.heap.size, 1, none⟩ = some (.int .i64 ((b2 : Int) + 1)) := c1
              have k3 : u1.cell? ⟨w.heap.size, 3, none⟩ = some (.int .i64 ((d2 : Int) + 1)) := c3
              clear c1 c3
              obtain ⟨d0, d1', d2', d3'⟩ := hT1.box.cells
              have l1 : (u1.setCell ⟨W0.heap.size, b2, none⟩ (.int .i64 (d2 : Int))).cell? ⟨w.heap.size, 1, none⟩ = some (.int .i64 ((b2 : Int) + 1)) := d1'
              have l3 : (u1.setCell ⟨W0.heap.size, b2, none⟩ (.int .i64 (d2 : Int))).cell? ⟨w.heap.size, 3, none⟩ = some (.int .i64 ((d2 : Int) + 1)) := d3'
              clear d1' d3'
              have f1 := hT1.box.frozen
              obtain ⟨e0, e1', e2', e3'⟩ := hT2.box.cells
              have m3 : ((u1.setCell ⟨W0.heap.size, b2, none⟩ (.int .i64 (d2 : Int))).setCell ⟨w.heap.size, 1, none⟩ (.int .i64 (b2 : Int))).cell? ⟨w.heap.size, 3, none⟩ = some (.int .i64 ((d2 : Int) + 1)) := e3'
              clear e3'
              have f2 := hT2.box.frozen
              have hG3 := grown_new (grown_new (hGq.trans (grown_set u1 W0.heap.size b2 (.int .i64 (d2 : Int)))) (Nat.le_refl _) 1 (.int .i64 (b2 : Int))) (Nat.le_refl _) 3 (.int .i64 (d2 : Int))
              have n3 : (b2 : Int) + 1 - 1 = (b2 : Int) := by omega
              have n4 : (d2 : Int) + 1 - 1 = (d2 : Int) := by omega
              have a3 : 0 ≤ (b2 : Int) := by omega
              have a2 : (b2 : Int) < (x.length : Int) := by omega
              go_wp2
              refine ⟨⟨b2, d2, _, by omega, by omega, by omega, by omega, hT3, (heap_setCell_other _ _ _ _ (by simp)).trans ((heap_setCell_other _ _ _ _ (by simp)).trans ((heap_setCell_other _ _ _ _ (by simp; omega)).trans hRq)), hG3, HV2⟩, ?_⟩
              rw [cw, hT3.box.cells.2.1]
              simp [intOf]
            | false =>
              have hh := of_decide_eq_false HRr.out
              have hz : tb x y A1 b' C1 d' = 0 := by rw [tb, if_neg hh]
              obtain ⟨q1, q2, q3⟩ := HV.out
              rw [hz] at q1 q2 q3
              have q3' : K2 = wrk K' (bp b d m) := q3
              clear hh hz q3 HV HRr cw
              have hr0 : u1.cell? ⟨w.heap.size + 1, 0, none⟩ = some (.int .i64 0) := by rw [Lib.cell_of_heap hRq]; rfl
              have hr1 : u1.cell? ⟨w.heap.size + 1, 1, none⟩ = some (.int .i64 0) := by rw [Lib.cell_of_heap hRq]; rfl
              have hr2 : u1.cell? ⟨w.heap.size + 1, 2, none⟩ = some (.int .i64 0) := by rw [Lib.cell_of_heap hRq]; rfl
              have hr3 : u1.cell? ⟨w.heap.size + 1, 3, none⟩ = some (.int .i64 0) := by rw [Lib.cell_of_heap hRq]; rfl
              have fr : ∀ j, u1.frozen? ⟨w.heap.size + 1, j, none⟩ = false := fun j => by unfold World.frozen?; rw [hRq]; rfl
              go_wp2
              have s1 := heap_setCell_same u1 (w.heap.size + 1) 0 _ _ (.int .i64 (A1 : Int)) hRq
              have s2 := heap_setCell_same _ (w.heap.size + 1) 1 _ _ (.int .i64 (b' : Int)) s1
              have s3 := heap_setCell_same _ (w.heap.size + 1) 2 _ _ (.int .i64 (C1 : Int)) s2
              have s4 := heap_setCell_same _ (w.heap.size + 1) 3 _ _ (.int .i64 (d' : Int)) s3
              have hL4 := ls_other (ls_other (ls_other (ls_other hTq.ls (g := w.heap.size + 1) (by omega) (by omega) 0 (.int .i64 (A1 : Int))) (g := w.heap.size + 1) (by omega) (by omega) 1 (.int .i64 (b' : Int))) (g := w.heap.size + 1) (by omega) (by omega) 2 (.int .i64 (C1 : Int))) (g := w.heap.size + 1) (by omega) (by omega) 3 (.int .i64 (d' : Int))
              have hG4 := grown_new (grown_new (grown_new (grown_new hGq (B := w.heap.size + 1) (by omega) 0 (.int .i64 (A1 : Int))) (B := w.heap.size + 1) (by omega) 1 (.int .i64 (b' : Int))) (B := w.heap.size + 1) (by omega) 2 (.int .i64 (C1 : Int))) (B := w.heap.size + 1) (by omega) 3 (.int .i64 (d' : Int))
              refine bodyPost_ret (v := .agg #[.int .i64 (A1 : Int), .int .i64 (b' : Int), .int .i64 (C1 : Int), .int .i64 (d' : Int)]) (results_cell_row rfl _ _ (w.heap.size + 1) 58 #[.int .i64 (A1 : Int), .int .i64 (b' : Int), .int .i64 (C1 : Int), .int .i64 (d' : Int)] (0, 0) _ rfl s4 Try.underlying58 rfl (by kernel_rfl)) rfl ⟨k, m, HFin.out.1, HFin.out.2.1, ?_, ?_, hG4⟩
              · rw [← HFin.out.2.2.1, ← HFin.out.2.2.2.1, show b - m = b' by omega, show d - m = d' by omega]
              · rw [← HFin.out.2.2.2.2, ← q3']
                exact hL4
end Go.Proofs.Yteplejpbgajecaa

/- What the least edit script keeps, by the reference: Keeps, Length and Diff, walked. -/
namespace Go.Proofs.Yteplejpbgajecaa
open Go.RowKit

set_option maxRecDepth 10000 in
set_option maxHeartbeats 4000000 in
theorem Keeps_own (x y : List Int) (vx vy : Value) (w : World) (hx : HI w vx x) (hy : HI w vy y) (hxl : x.length ≤ 4096) (hyl : y.length ≤ 4096) (K : List Int) (hK : Hid (kp 0 x y = K)) :
    Calls Try.prog 54 #[vx, vy] w fun e w' => ∃ v' B, e = .returned v' ∧ w.heap.size ≤ B ∧ w'.ownsRow B 3 1 v' K.length (icells K) ∧ Below w.heap.size w w' := by
  obtain ⟨xo, xc, rfl⟩ := Holds.form hx
  obtain ⟨yo, yc, rfl⟩ := Holds.form hy
  have HKl : Hid (K.length = x.length) := (by show _ = _; rw [← hK.out, kp_length])
  go_enter Try.func54, Try.ntmps54
  go_wp2_with fail
  refine (table_f x y _ _ w hx hy hxl hyl).mono ?_
  rintro e w1 ⟨rfl, hR, hB1⟩
  go_wp2
  go_loopw [6, 7, 8] (fun kv jv iv wr => ∃ (i j : Nat) (Z : List Int) (zo : Option Addr) (zc : Nat), i ≤ x.length ∧ j ≤ y.length ∧ iv = .int .i64 i ∧ jv = .int .i64 j ∧ kv = .slice zo i zc ∧ Z.length = i ∧ wr.ownsRow w1.heap.size 3 1 (.slice zo i zc) i (icells Z) ∧ Below w1.heap.size w1 wr ∧ Hid (Z ++ kp j (x.drop i) (y.drop j) = K)) (fun _ jv iv _ => (x.length - (intOf iv).toNat) + (y.length - (intOf jv).toNat))
  case atStart => exact ⟨0, 0, [], none, 0, Nat.zero_le _, Nat.zero_le _, rfl, rfl, rfl, rfl, World.ownsRow_nil _ _ _ _, Below.refl _ _, hK⟩
  case round =>
    obtain ⟨i, j, Z, zo, zc, hi, hj, rfl, rfl, rfl, hZl, hO, hB, HZ⟩ := hrel
    have hs := hB.size
    have hB0 : Below w.heap.size w wr := hB1.trans (hB.mono hB1.size)
    by_cases hil : i < x.length
    · obtain ⟨bx, ox, rfl, _, hcx⟩ := HI.at (HI.keep hx hB0 (Nat.le_refl _)) (by omega)
      have d1 := hcx i hil
      obtain ⟨xi, hxi⟩ : ∃ z, x[i] = z := ⟨_, rfl⟩
      rw [hxi] at d1
      clear hcx
      have i1 : 0 ≤ (i : Int) := by omega
      have i2 : (i : Int) < (x.length : Int) := by omega
      by_cases hjl : j < y.length
      · obtain ⟨by', oy, rfl, _, hcy⟩ := HI.at (HI.keep hy hB0 (Nat.le_refl _)) (by omega)
        have d2 := hcy j hjl
        obtain ⟨yj, hyj⟩ : ∃ z, y[j] = z := ⟨_, rfl⟩
        rw [hyj] at d2
        clear hcy
        have hRr := hR.keep hB
        have hkp := kp_step j x y i j hil hjl
        rw [hxi, hyj] at hkp
        have t1 := hRr.top i hi
        have t2 := hRr.top (i + 1) (by omega)
        have r1 := hRr.at' (i + 1) j (by omega) (by omega)
        have r2 := hRr.at' i (j + 1) (by omega) (by omega)
        unfold rowV at t1 t2
        have b1 := ln_le x y (i + 1) j
        have b2 := ln_le x y i (j + 1)
        have HKP : Hid (kp j (x.drop i) (y.drop j) = if xi = yj then (j : Int) :: kp ((j : Int) + 1) (x.drop (i + 1)) (y.drop (j + 1)) else if ln x y i (j + 1) ≤ ln x y (i + 1) j then -1 :: kp j (x.drop (i + 1)) (y.drop j) else kp ((j : Int) + 1) (x.drop i) (y.drop (j + 1))) := hkp
        clear hkp hxi hyj hRr
        have i3 : (i : Int) + 1 < (x.length : Int) + 1 := by omega
        have i4 : (i : Int) < (x.length : Int) + 1 := by omega
        have j1 : 0 ≤ (j : Int) := by omega
        have j2 : (j : Int) < (y.length : Int) := by omega
        have j3 : (j : Int) + 1 < (y.length : Int) + 1 := by omega
        have j4 : (j : Int) < (y.length : Int) + 1 := by omega
        have hje : ((j : Int) == (y.length : Int)) = false := by simp; omega
        generalize rowB w.heap.size x.length i = gi at *
        generalize rowB w.heap.size x.length (i + 1) = gj at *
        generalize ln x y (i + 1) j = a1 at *
        generalize ln x y i (j + 1) = a2 at *
        by_cases hxy : xi = yj
        · have HK2 : Hid ((Z ++ [(j : Int)]) ++ kp ((j + 1 : Nat) : Int) (x.drop (i + 1)) (y.drop (j + 1)) = K) := (by
            show _ = _
            rw [← HZ.out, HKP.out, if_pos hxy]
            simp)
          clear HKP
          subst hxy
          have e1 : (xi == xi) = true := by simp
          have e2 : (xi != xi) = false := by simp
          go_wp2_with fail
          go_big_quiet (fail)
          revert nq
          intro n1
          go_wp2_with fail
          go_quiet (fail)
          have hOd : ((wr.drewN n1).drewN nq).ownsRow w1.heap.size 3 1 (.slice zo i zc) i (icells Z) := hO
          have hBd : Below w1.heap.size w1 ((wr.drewN n1).drewN nq) := Below.dN (Below.dN hB n1) nq
          generalize (wr.drewN n1).drewN nq = wd at hOd hBd ⊢
          have hsd := hBd.size
          go_wp2_with (at_builtin; refine wpList_append_h _ (by kernel_rfl) (.tmp 68) (.tmp 70) 22 3 (.int .i64 0) 1 8 rfl Try.underlying22 infoInt rfl (by decide) (by decide) w1.heap.size (.slice zo i zc) i (icells Z) (by kernel_rfl) (hOd.alloc _) (.slice (some ⟨wd.heap.size, 0, none⟩) 1 1) 1 (icells [(j : Int)]) (by kernel_rfl) (new_holds wd _ _ 1 1 (by decide)) rfl (icells_one _) (by omega) (by simp; omega) ?_)
          intro v3 w3 hown3 hgrow3
          have hB3 : Below w1.heap.size w1 w3 := (hBd.alloc (by omega) _).grown hgrow3 (by simp; omega) (fun _ hj => owns_ge hO hj)
          rw [← icells_append] at hown3
          obtain ⟨zo3, zc3, rfl⟩ := (holds_of hown3).form
          clear hgrow3
          go_wp2
          go_roundw
          case rel => exact ⟨i + 1, j + 1, Z ++ [(j : Int)], zo3, zc3, by omega, by omega, by go_num, by go_num, rfl, by simp [hZl], hown3, hB3, HK2⟩
          case measure => simp [intOf]; omega
        · have e1 : (xi == yj) = false := by simp [hxy]
          have e2 : (xi != yj) = true := by simp [hxy]
          by_cases hle : a2 ≤ a1
          · have HK2 : Hid ((Z ++ [-1]) ++ kp (j : Int) (x.drop (i + 1)) (y.drop j) = K) := (by
              show _ = _
              rw [← HZ.out, HKP.out, if_neg hxy, if_pos hle]
              simp)
            clear HKP
            go_wp2_with fail
            go_big_quiet (fail)
            have hOd : (wr.drewN nq).ownsRow w1.heap.size 3 1 (.slice zo i zc) i (icells Z) := hO
            have hBd : Below w1.heap.size w1 (wr.drewN nq) := Below.dN hB nq
            generalize wr.drewN nq = wd at hOd hBd ⊢
            have hsd := hBd.size
            go_wp2_with (at_builtin; refine wpList_append_h _ (by kernel_rfl) (.tmp 53) (.tmp 54) 22 3 (.int .i64 0) 1 8 rfl Try.underlying22 infoInt rfl (by decide) (by decide) w1.heap.size (.slice zo i zc) i (icells Z) (by kernel_rfl) (hOd.alloc _) (.slice (some ⟨wd.heap.size, 0, none⟩) 1 1) 1 (icells [-1]) (by kernel_rfl) (new_holds wd _ _ 1 1 (by decide)) rfl (icells_one _) (by omega) (by simp; omega) ?_)
            intro v3 w3 hown3 hgrow3
            have hB3 : Below w1.heap.size w1 w3 := (hBd.alloc (by omega) _).grown hgrow3 (by simp; omega) (fun _ hj => owns_ge hO hj)
            rw [← icells_append] at hown3
            obtain ⟨zo3, zc3, rfl⟩ := (holds_of hown3).form
            clear hgrow3
            go_wp2
            go_roundw
            case rel => exact ⟨i + 1, j, Z ++ [-1], zo3, zc3, by omega, by omega, by go_num, rfl, rfl, by simp [hZl], hown3, hB3, HK2⟩
            case measure => simp [intOf]; omega
          · have HK2 : Hid (Z ++ kp ((j + 1 : Nat) : Int) (x.drop i) (y.drop (j + 1)) = K) := (by
              show _ = _
              rw [← HZ.out, HKP.out, if_neg hxy, if_neg hle]
              simp)
            clear HKP
            have e3 : decide ((a2 : Int) ≤ (a1 : Int)) = false := decide_eq_false (by omega)
            have e4 : decide (a2 ≤ a1) = false := decide_eq_false hle
            go_wp2_with fail
            go_big_quiet (fail)
            go_wp2_with fail
            go_quiet (fail)
            go_wp2
            exact ⟨⟨i, j + 1, Z, zo, zc, hi, by omega, rfl, by go_num, rfl, hZl, hO, Below.dN hB _, HK2⟩, by simp [intOf]; omega⟩
      · have HK2 : Hid ((Z ++ [-1]) ++ kp (j : Int) (x.drop (i + 1)) (y.drop j) = K) := (by
          show _ = _
          rw [← HZ.out, show y.drop j = [] by rw [List.drop_eq_nil_iff]; omega, List.drop_eq_getElem_cons hil, kp]
          simp)
        have hje : ((j : Int) == (y.length : Int)) = true := by simp; omega
        go_wp2_with fail
        go_big_quiet (fail)
        have hOd : (wr.drewN nq).ownsRow w1.heap.size 3 1 (.slice zo i zc) i (icells Z) := hO
        have hBd : Below w1.heap.size w1 (wr.drewN nq) := Below.dN hB nq
        generalize wr.drewN nq = wd at hOd hBd ⊢
        have hsd := hBd.size
        go_wp2_with (at_builtin; refine wpList_append_h _ (by kernel_rfl) (.tmp 53) (.tmp 54) 22 3 (.int .i64 0) 1 8 rfl Try.underlying22 infoInt rfl (by decide) (by decide) w1.heap.size (.slice zo i zc) i (icells Z) (by kernel_rfl) (hOd.alloc _) (.slice (some ⟨wd.heap.size, 0, none⟩) 1 1) 1 (icells [-1]) (by kernel_rfl) (new_holds wd _ _ 1 1 (by decide)) rfl (icells_one _) (by omega) (by simp; omega) ?_)
        intro v3 w3 hown3 hgrow3
        have hB3 : Below w1.heap.size w1 w3 := (hBd.alloc (by omega) _).grown hgrow3 (by simp; omega) (fun _ hj => owns_ge hO hj)
        rw [← icells_append] at hown3
        obtain ⟨zo3, zc3, rfl⟩ := (holds_of hown3).form
        clear hgrow3
        go_wp2
        go_roundw
        case rel => exact ⟨i + 1, j, Z ++ [-1], zo3, zc3, by omega, by omega, by go_num, rfl, rfl, by simp [hZl], hown3, hB3, HK2⟩
        case measure => simp [intOf]; omega
    · obtain rfl : i = x.length := by omega
      have hZK : Z = K := by rw [← HZ.out, show x.drop x.length = [] by simp, kp_nil, List.append_nil]
      subst hZK
      go_wp2
      go_ret
      exact ⟨_, _, rfl, hB1.size, by rw [hZl]; exact hO, hB0⟩
theorem Keeps_f (x y : List Int) (vx vy : Value) (w : World) (hx : HI w vx x) (hy : HI w vy y) (hxl : x.length ≤ 4096) (hyl : y.length ≤ 4096) (K : List Int) (hK : Hid (kp 0 x y = K)) :
    Calls Try.prog 54 #[vx, vy] w fun e w' => ∃ v', e = .returned v' ∧ HI w' v' K ∧ Below w.heap.size w w' := by
  refine (Keeps_own x y vx vy w hx hy hxl hyl K hK).mono ?_
  rintro e w' ⟨v', B, rfl, _, ho, hb⟩
  exact ⟨v', rfl, holds_of ho, hb⟩
end Go.Proofs.Yteplejpbgajecaa

/- The reference's Least, walked. -/
namespace Go.Proofs.Yteplejpbgajecaa
open Go.RowKit
attribute [local simp] low_drew

theorem Pbox.low {u u' : World} {B a b c d : Nat} (h : Pbox u B a b c d) (hg : Below u.heap.size u u') : Pbox u' B a b c d := (hg.block B (Array.getElem?_eq_some_iff.1 h).1).trans h
theorem Pbox.keep {u u' : World} {B a b c d : Nat} (h : Pbox u B a b c d) {r : Option Nat} (hg : u.grownBy u' r) (hr : some B ≠ r) : Pbox u' B a b c d := (hg.block B (Array.getElem?_eq_some_iff.1 h).1 hr).trans h
theorem Pbox.new (w : World) (a b c d : Nat) : Pbox (w.alloc (.cells #[.int .i64 (a : Int), .int .i64 (b : Int), .int .i64 (c : Int), .int .i64 (d : Int)] 58)) w.heap.size a b c d := _root_.Go.heap_alloc_new w _
theorem Keeps_low (x y : List Int) (vx vy : Value) (W u : World) (hx : HI u vx x) (hy : HI u vy y) (hxl : x.length ≤ 4096) (hyl : y.length ≤ 4096) (K : List Int) (hK : Hid (kp 0 x y = K)) (hL : Low W u) :
    Calls Try.prog 54 #[vx, vy] u fun e w' => ∃ v' B, e = .returned v' ∧ W.heap.size ≤ B ∧ w'.ownsRow B 3 1 v' K.length (icells K) ∧ Low W w' := by
  refine (Keeps_own x y vx vy u hx hy hxl hyl K hK).mono ?_
  rintro e w' ⟨v', B, rfl, h1, h2, h3⟩
  exact ⟨v', B, rfl, Nat.le_trans (Below.size hL) h1, h2, Below.trans hL (h3.mono (Below.size hL))⟩

set_option maxRecDepth 10000 in
set_option maxHeartbeats 4000000 in
theorem Least_f (x y : List Int) (W0 w : World) (vx vy : Value) (hx : HI W0 vx x) (hy : HI W0 vy y) (hxl : x.length ≤ 4096) (hyl : y.length ≤ 4096) (K : List Int) (hS : Ls W0 W0.heap.size x.length K w) (a b c d : Nat) (hab : a ≤ b) (hb : b ≤ x.length) (hcd : c ≤ d) (hd : d ≤ y.length) (KF : List Int) (hKF : Hid (wrk K (lp a c (kp 0 (sub x a b) (sub y c d))) = KF)) :
    Calls Try.prog 33 #[.slice (some ⟨W0.heap.size, 0, none⟩) x.length x.length, vx, vy, .agg #[.int .i64 (a : Int), .int .i64 (b : Int), .int .i64 (c : Int), .int .i64 (d : Int)]] w fun e w' => e = .returned (.tuple #[]) ∧ Ls W0 W0.heap.size x.length KF w' ∧ w.grownBy w' (some W0.heap.size) := by
  obtain ⟨xo, xc, rfl⟩ := Holds.form hx
  obtain ⟨yo, yc, rfl⟩ := Holds.form hy
  have hg := hS.lt.2
  have r1 := run_slB xo x.length xc a b hab hb (hold_cap hx)
  have r2 := run_slB yo y.length yc c d hcd hd (hold_cap hy)
  obtain ⟨X, hX⟩ : ∃ X, sub x a b = X := ⟨_, rfl⟩
  obtain ⟨Y, hY⟩ : ∃ Y, sub y c d = Y := ⟨_, rfl⟩
  obtain ⟨nx, hnx⟩ : ∃ nx, b - a = nx := ⟨_, rfl⟩
  obtain ⟨ny, hny⟩ : ∃ ny, d - c = ny := ⟨_, rfl⟩
  have hXl : X.length = nx := by rw [← hX, sub_length x a b hb, hnx]
  have hYl : Y.length = ny := by rw [← hY, sub_length y c d hd, hny]
  rw [hnx] at r1
  rw [hny] at r2
  obtain ⟨Z, hZ⟩ : ∃ Z, kp 0 X Y = Z := ⟨_, rfl⟩
  rw [hX, hY, hZ] at hKF
  have HZ : Hid (kp 0 X Y = Z) := hZ
  have HZl : Hid (Z.length = nx) := (by show _ = _; rw [← hZ, kp_length, hXl])
  have HV : Hid (Vk 0 ny Z) := (by
    have := kp_vk 0 X Y (Int.le_refl _)
    rw [hZ, Int.zero_add, hYl] at this
    exact this)
  have hxs : ∀ u : World, Low (w.alloc (.cells #[.int .i64 (a : Int), .int .i64 (b : Int), .int .i64 (c : Int), .int .i64 (d : Int)] 58)) u → HI u (.slice (slF xo xc a) nx (xc - a)) X ∧ HI u (.slice (slF yo yc c) ny (yc - c)) Y := fun u hu => by
    have hlow : Below W0.heap.size W0 u := (hS.low.alloc hS.low.size _).trans (Below.mono hu (by have := hS.low.size; simp; omega))
    have h1 := hold_sub (HI.keep hx hlow (Nat.le_refl _)) hab hb
    have h2 := hold_sub (HI.keep hy hlow (Nat.le_refl _)) hcd hd
    unfold HI
    rw [hXl, hYl]
    rw [hX, hnx] at h1
    rw [hY, hny] at h2
    exact ⟨h1, h2⟩
  have HE : Hid (b = a + nx ∧ d = c + ny ∧ X.length = nx ∧ Y.length = ny) := ⟨by omega, by omega, hXl, hYl⟩
  generalize slF xo xc a = xo' at r1 hxs
  generalize slF yo yc c = yo' at r2 hxs
  generalize xc - a = xc' at r1 hxs
  generalize yc - c = yc' at r2 hxs
  have hnl : nx ≤ 4096 := by omega
  clear hX hY hnx hny hXl hYl hZ
  have hQ0 := Pbox.new w a b c d
  have hB0 := (Below.refl w.heap.size w).alloc (Nat.le_refl _) (.cells #[.int .i64 (a : Int), .int .i64 (b : Int), .int .i64 (c : Int), .int .i64 (d : Int)] 58)
  have hcs : ∀ u : World, Low (w.alloc (.cells #[.int .i64 (a : Int), .int .i64 (b : Int), .int .i64 (c : Int), .int .i64 (d : Int)] 58)) u → u.cell? ⟨w.heap.size, 0, none⟩ = some (.int .i64 (a : Int)) ∧ u.cell? ⟨w.heap.size, 1, none⟩ = some (.int .i64 (b : Int)) ∧ u.cell? ⟨w.heap.size, 2, none⟩ = some (.int .i64 (c : Int)) ∧ u.cell? ⟨w.heap.size, 3, none⟩ = some (.int .i64 (d : Int)) := fun u hu => (hQ0.low hu).cells
  obtain ⟨W1, hW1⟩ : ∃ W1, w.alloc (.cells #[.int .i64 (a : Int), .int .i64 (b : Int), .int .i64 (c : Int), .int .i64 (d : Int)] 58) = W1 := ⟨_, rfl⟩
  rw [hW1] at hQ0 hB0 hcs hxs
  have hsz : W1.heap.size = w.heap.size + 1 := by rw [← hW1]; simp
  obtain ⟨c0, c1, c2, c3⟩ := hQ0.cells
  go_enter Try.func33, Try.ntmps33
  go_wp2_with fail
  have hLw : Low W1 W1 := Below.refl _ _
  clear hW1
  go_region_held3 (fun u => u.cell? ⟨w.heap.size, 0, none⟩ = some (.int .i64 (a : Int)) ∧ u.cell? ⟨w.heap.size, 1, none⟩ = some (.int .i64 (b : Int)) ∧ u.cell? ⟨w.heap.size, 2, none⟩ = some (.int .i64 (c : Int)) ∧ u.cell? ⟨w.heap.size, 3, none⟩ = some (.int .i64 (d : Int)) ∧ Low W1 u) (go_keep)
    (first | (go_at_call 54; refine (Keeps_low X Y _ _ W1 _ (hxs _ (by first | assumption | (simp [*]; done))).1 (hxs _ (by first | assumption | (simp [*]; done))).2 (by have := HE.out; omega) (by have := HE.out; omega) Z HZ (by first | assumption | (simp [*]; done))).mono ?_; rintro e wd ⟨v', B, rfl, hBB, hO, hlw⟩; obtain ⟨g0, g1, g2, g3⟩ := hcs wd hlw))
  obtain ⟨zo, zc, rfl⟩ := (holds_of hO).form
  rw [HZl.out] at hO ⊢
  have hBw : Below w.heap.size w wd := hB0.trans (Below.mono hlw (by omega))
  have hQ2 := hQ0.low hlw
  have hS2 := hS.keep hBw
  have hG2 := low_grown hBw (some W0.heap.size)
  clear c0 c1 c2 c3 g0 g1 g2 g3 hcs hxs r1 r2 hlw hLw hQ0 hB0 hS HZ hBw
  go_wp2
  go_loopw [9] (fun iv wr => ∃ (i : Nat) (K2 : List Int), i ≤ nx ∧ iv = .int .i64 i ∧ Ls W0 W0.heap.size x.length K2 wr ∧ w.grownBy wr (some W0.heap.size) ∧ Pbox wr w.heap.size a b c d ∧ wr.ownsRow B 3 1 (.slice zo nx zc) nx (icells Z) ∧ Hid (wrk K2 (lp ((a : Int) + i) c (Z.drop i)) = KF)) (fun iv _ => nx - (intOf iv).toNat)
  case atStart => exact ⟨0, K, Nat.zero_le _, rfl, hS2, hG2, hQ2, hO, by simpa using hKF⟩
  case round =>
    clear hS2 hG2 hQ2 hO hKF
    obtain ⟨i, K2, hi, rfl, hS, hG, hQ, hO, HW⟩ := hrel
    by_cases hlt : i < nx
    · have hiZ : i < Z.length := by have := HZl.out; omega
      obtain ⟨zb, zf, zcc, hze, _, hcz⟩ := Holds.at (holds_of hO) (by rw [icells_length]; omega)
      cases hze
      have z0 := hcz i (by rw [icells_length]; omega)
      obtain ⟨j, hj⟩ : ∃ j, Z[i] = j := ⟨_, rfl⟩
      have z1 : wr.cell? ⟨zb, zf + i, none⟩ = some (.int .i64 j) := by rw [z0]; simp [icells, hj]
      have hjv := (HV.out.each (Int.le_refl _)) j (by rw [← hj]; exact List.getElem_mem _)
      have hjl := HV.out.lt j (by rw [← hj]; exact List.getElem_mem _)
      have HW2 : Hid (wrk K2 ((if j = -1 then [] else [⟨(a : Int) + i, c + j⟩]) ++ lp ((a : Int) + i + 1) c (Z.drop (i + 1))) = KF) := (by
        show _ = _
        have := HW.out
        rw [List.drop_eq_getElem_cons hiZ, lp, hj] at this
        exact this)
      clear z0 hcz hj HW
      have i1 : 0 ≤ (i : Int) := by omega
      have i2 : (i : Int) < (nx : Int) := by omega
      by_cases hj1 : j = -1
      · have e1 : ¬ 0 ≤ j := by omega
        have e2 : decide (0 ≤ j) = false := decide_eq_false e1
        have HW3 : Hid (wrk K2 (lp ((a : Int) + ((i + 1 : Nat) : Int)) c (Z.drop (i + 1))) = KF) := (by
          show _ = _
          rw [← HW2.out, if_pos hj1, List.nil_append, show (a : Int) + ((i + 1 : Nat) : Int) = (a : Int) + i + 1 by omega])
        clear HW2 hj1 hjv hjl
        go_wp2
        go_roundw
        case rel => exact ⟨i + 1, K2, by omega, by go_num, hS, hG, hQ, hO, HW3⟩
        case measure => simp [intOf]; omega
      · obtain ⟨q, rfl⟩ : ∃ q : Nat, j = q := ⟨j.toNat, by omega⟩
        have hqn : q < ny := by omega
        obtain ⟨u, hu⟩ : ∃ u, a + i = u := ⟨_, rfl⟩
        obtain ⟨v, hv⟩ : ∃ v, c + q = v := ⟨_, rfl⟩
        have hE := HE.out
        have n1 : (a : Int) + (i : Int) = (u : Int) := by omega
        have n2 : (c : Int) + (q : Int) = (v : Int) := by omega
        have n3 : IntKind.i64.wrap (u : Int) = (u : Int) := by rw [IntKind.wrap_i64]; omega
        have n4 : IntKind.i64.wrap (v : Int) = (v : Int) := by rw [IntKind.wrap_i64]; omega
        have i3 : 0 ≤ (u : Int) := by omega
        have i4 : (u : Int) < (x.length : Int) := by omega
        have e1 : 0 ≤ (q : Int) := by omega
        have hl := hS.len
        have d0 := hS.at (List.getElem?_eq_getElem (i := u) (by omega))
        have f0 := hS.own.frozenAt u
        have hS1 := hS.set u (v : Int)
        have hG1 := hG.trans (grown_set wr W0.heap.size u (.int .i64 (v : Int)))
        have hQ1 := hQ.keep (grown_set wr W0.heap.size u (.int .i64 (v : Int))) (by simp; omega)
        have hO1 := holds_grown hO (grown_set wr W0.heap.size u (.int .i64 (v : Int))) (by omega)
        have HW3 : Hid (wrk (K2.set u (v : Int)) (lp ((a : Int) + ((i + 1 : Nat) : Int)) c (Z.drop (i + 1))) = KF) := (by
          show _ = _
          rw [← HW2.out, if_neg hj1, wrk_append, show (a : Int) + ((i + 1 : Nat) : Int) = (a : Int) + i + 1 by omega]
          simp only [wrk, List.foldl_cons, List.foldl_nil, n1, n2, Int.toNat_natCast])
        generalize K2[u] = z0 at d0
        obtain ⟨c0, c1, c2, c3⟩ := hQ.cells
        clear HW2 hj1 hjv hjl hl hu hv hE
        go_wp2
        go_region
        go_wp2
        go_roundw
        case rel => exact ⟨i + 1, _, by omega, by go_num, hS1.drewN 1, grown_drewN hG1 1, hQ1, hO1, HW3⟩
        case measure => simp [intOf]; omega
    · obtain rfl : i = nx := by omega
      have e : K2 = KF := by
        have := HW.out
        rw [List.drop_of_length_le (by have := HZl.out; omega)] at this
        exact this
      subst e
      go_wp2
      go_end0
      exact ⟨rfl, hS, hG⟩
end Go.Proofs.Yteplejpbgajecaa
