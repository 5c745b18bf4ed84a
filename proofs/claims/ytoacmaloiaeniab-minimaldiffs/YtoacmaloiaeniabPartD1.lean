/-
  Texts that belong together, joined: EdRMk, MiTb, MiRk, MiRd.
-/
import Derived.Test.YtoacmaloiaeniabPartA2
import Derived.Test.YtoacmaloiaeniabPartC1

/- The reference's Make, walked. -/
namespace Go.Proofs.Ytoacmaloiaeniab
open Go.RowKit

set_option maxRecDepth 10000 in
set_option maxHeartbeats 4000000 in
theorem rMake_f (K : List Int) (m : Int) (L : List Ch) (v : Value) (w : World) (hK : HI w v K) (hlen : K.length ≤ 1048576) (hV : Hid (Vk 0 m K)) (hm0 : 0 ≤ m) (hm : m ≤ 2147483647) (hL : Hid (mkL K m = L)) :
    Calls Try.prog 24 #[v, .int .i64 m] w fun e w' => ∃ v', e = .returned (.tuple #[v', .int .i64 0]) ∧ HCh w' v' L ∧ Below w.heap.size w w' := by
  obtain ⟨ao, ca, rfl⟩ := Holds.form hK
  go_enter Try.func24, Try.ntmps24
  go_wp2
  go_loopw [6, 7] (fun lv iv wr => ∃ (k : Nat) (la : Int), k ≤ K.length ∧ lv = .int .i64 la ∧ iv = .int .i64 (k : Int) ∧ -1 ≤ la ∧ la ≤ m ∧ w = wr ∧ Hid (Vk (la + 1) m (K.drop k))) (fun _ iv _ => K.length - (intOf iv).toNat)
  case atStart => exact ⟨0, -1, Nat.zero_le _, rfl, rfl, by omega, by omega, rfl, hV⟩
  case round =>
    obtain ⟨k, la, hk, rfl, rfl, hl0, hl1, rfl, hR⟩ := hrel
    by_cases hlt : k < K.length
    · obtain ⟨bk, off, rfl, hbk, hc⟩ := HI.at hK (by omega)
      have c0 := hc k hlt
      have hR' := hR.out
      rw [List.drop_eq_getElem_cons hlt] at hR'
      obtain ⟨z, hzd⟩ : ∃ z, K[k] = z := ⟨_, rfl⟩
      rw [hzd] at hR' c0
      clear hc hzd hR
      have i1 : 0 ≤ (k : Int) := by omega
      have i2 : (k : Int) < (K.length : Int) := by omega
      by_cases hz : z = -1
      · subst hz
        have HR : Hid (Vk (la + 1) m (K.drop (k + 1))) := (by
          rcases hR' with ⟨_, h1⟩ | ⟨h1, _⟩
          · exact h1
          · exact absurd rfl h1)
        clear hR'
        go_wp2
        go_roundw
        case rel => exact ⟨k + 1, la, by omega, rfl, by go_num, hl0, hl1, by first | rfl | trivial, HR⟩
        case measure => simp [intOf]; omega
      · have hq : la + 1 ≤ z ∧ z < m ∧ Vk (z + 1) m (K.drop (k + 1)) := by
          rcases hR' with ⟨h1, _⟩ | ⟨_, h1⟩
          · exact absurd h1 hz
          · exact h1
        obtain ⟨q1, q2, q3⟩ := hq
        have HR : Hid (Vk (z + 1) m (K.drop (k + 1))) := q3
        clear hR' q3
        have hz2 : decide (z = -1) = false := decide_eq_false hz
        have n1 : ¬ z ≤ la := by omega
        have n2 : ¬ m ≤ z := by omega
        go_wp2
        go_roundw
        case rel => exact ⟨k + 1, z, by omega, rfl, by go_num, by omega, by omega, by first | rfl | trivial, HR⟩
        case measure => simp [intOf]; omega
    · have n0 : ¬ m < 0 := by omega
      have i2 : ¬ (k : Int) < (K.length : Int) := by omega
      clear hR
      go_wp2
      go_loopw [8, 9, 10, 11] (fun ov av bv iv wr => ∃ (k : Nat) (a b : Int) (X : List Ch), k ≤ K.length + 1 ∧ (∃ oo oc, ov = .slice oo X.length oc) ∧ av = .int .i64 a ∧ bv = .int .i64 b ∧ iv = .int .i64 (k : Int) ∧ 0 ≤ a ∧ a ≤ k ∧ 0 ≤ b ∧ b ≤ m + 1 ∧ St w 50 4 ov X.length (chcells X) wr ∧ X.length ≤ k ∧ Hid ((k ≤ K.length → Vk b m (K.drop k) ∧ b ≤ m ∧ X ++ betw a b (keptR k (K.drop k) ++ [⟨K.length, m, 0⟩]) = L) ∧ (k = K.length + 1 → X = L))) (fun _ _ _ iv _ => K.length + 1 - (intOf iv).toNat)
      case atStart => exact ⟨0, 0, 0, [], Nat.zero_le _, ⟨_, _, rfl⟩, rfl, rfl, rfl, by omega, by omega, by omega, by omega, ⟨World.ownsRow_nil _ _ _ _, Below.refl _ w⟩, Nat.zero_le _, ⟨fun _ => ⟨hV.out, hm0, hL.out⟩, fun h => by omega⟩⟩
      case round =>
        clear hlt i2 hk
        obtain ⟨k, a, b, X, hk, ⟨oo, oc, rfl⟩, rfl, rfl, rfl, ha0, ha1, hb0, hb1, hSt, hX, hR⟩ := hrel
        have hsz := hSt.low.size
        by_cases hlt : k < K.length
        · obtain ⟨bk, off, rfl, hbk, hc⟩ := HI.at (HI.keep hK hSt.low (Nat.le_refl _)) (by omega)
          have c0 := hc k hlt
          have hR' := hR.out.1 (by omega)
          rw [List.drop_eq_getElem_cons hlt] at hR'
          obtain ⟨z, hzd⟩ : ∃ z, K[k] = z := ⟨_, rfl⟩
          rw [hzd] at hR' c0
          clear hc hzd hR
          have i1 : 0 ≤ (k : Int) := by omega
          have i2 : (k : Int) < (K.length : Int) := by omega
          have i3 : (k : Int) ≤ (K.length : Int) := by omega
          by_cases hz : z = -1
          · subst hz
            have HR : Hid ((k + 1 ≤ K.length → Vk b m (K.drop (k + 1)) ∧ b ≤ m ∧ X ++ betw a b (keptR (k + 1 : Nat) (K.drop (k + 1)) ++ [⟨K.length, m, 0⟩]) = L) ∧ (k + 1 = K.length + 1 → X = L)) := (by
              obtain ⟨h1, h2, h3⟩ := hR'
              rw [keptR, if_pos rfl] at h3
              rcases h1 with ⟨_, h1⟩ | ⟨h1, _⟩
              · exact ⟨fun _ => ⟨h1, h2, h3⟩, fun h => by omega⟩
              · exact absurd rfl h1)
            clear hR'
            go_wp2
            go_roundw
            case rel => exact ⟨k + 1, a, b, X, by omega, ⟨_, _, rfl⟩, rfl, rfl, by go_num, ha0, by omega, hb0, hb1, hSt, by omega, HR⟩
            case measure => simp [intOf]; omega
          · have hq : b ≤ z ∧ z < m ∧ Vk (z + 1) m (K.drop (k + 1)) := by
              rcases hR'.1 with ⟨h1, _⟩ | ⟨_, h1⟩
              · exact absurd h1 hz
              · exact h1
            obtain ⟨q1, q2, q3⟩ := hq
            have hz2 : decide (z = -1) = false := decide_eq_false hz
            have h3 := hR'.2.2
            rw [keptR, if_neg hz, List.cons_append, betw] at h3
            dsimp only at h3
            clear hR'
            by_cases hcd : a < (k : Int) ∨ b < z
            · rw [if_pos hcd] at h3
              have HR : Hid ((k + 1 ≤ K.length → Vk (z + 1) m (K.drop (k + 1)) ∧ z + 1 ≤ m ∧ X ++ [⟨a, (k : Int) - a, b, z - b⟩] ++ betw ((k : Int) + 1) (z + 1) (keptR (k + 1 : Nat) (K.drop (k + 1)) ++ [⟨K.length, m, 0⟩]) = L) ∧ (k + 1 = K.length + 1 → X ++ [⟨a, (k : Int) - a, b, z - b⟩] = L)) := ⟨fun _ => ⟨q3, by omega, by rw [← h3]; simp⟩, fun h => by omega⟩
              clear h3 q3
              by_cases hak : a < (k : Int)
              · have n5 : decide (a < (k : Int)) = true := decide_eq_true hak
                go_wp2_with (at_builtin; refine wpList_append_h _ (by kernel_rfl) (.tmp 69) (.tmp 79) 27 50 (.agg #[.int .i64 0, .int .i64 0, .int .i64 0, .int .i64 0]) 4 32 rfl Try.underlying27 infoCh rfl (by decide) (by decide) w.heap.size _ _ _ rfl (hSt.own.alloc _) _ 1 (chcells [⟨a, (k : Int) - a, b, z - b⟩]) rfl (new_holds _ _ _ _ _ (by decide)) rfl (chcells_one _) (by omega) (by simp; omega) ?_)
                intro v2 w2 hown2 hgrow2
                have hSt2 := (st_alloc (Obj.cells #[Value.int IntKind.i64 a, Value.int IntKind.i64 ((k : Int) - a), Value.int IntKind.i64 b, Value.int IntKind.i64 (z - b)] 50) hSt).grown hown2 hgrow2
                obtain ⟨oo2, oc2, rfl⟩ := (holds_of hown2).form
                rw [← chcells_append] at hSt2
                clear hown2 hgrow2 c0
                go_wp2
                go_roundw
                case rel => exact ⟨k + 1, (k : Int) + 1, z + 1, X ++ [⟨a, (k : Int) - a, b, z - b⟩], by omega, ⟨_, _, by rw [List.length_append]; rfl⟩, by go_num, by go_num, by go_num, by omega, by omega, by omega, by omega, by rw [List.length_append]; exact hSt2, by simp; omega, HR⟩
                case measure => simp [intOf]; omega
              · have n6 : b < z := by omega
                go_wp2_with (at_builtin; refine wpList_append_h _ (by kernel_rfl) (.tmp 69) (.tmp 79) 27 50 (.agg #[.int .i64 0, .int .i64 0, .int .i64 0, .int .i64 0]) 4 32 rfl Try.underlying27 infoCh rfl (by decide) (by decide) w.heap.size _ _ _ rfl (hSt.own.alloc _) _ 1 (chcells [⟨a, (k : Int) - a, b, z - b⟩]) rfl (new_holds _ _ _ _ _ (by decide)) rfl (chcells_one _) (by omega) (by simp; omega) ?_)
                intro v2 w2 hown2 hgrow2
                have hSt2 := (st_alloc (Obj.cells #[Value.int IntKind.i64 a, Value.int IntKind.i64 ((k : Int) - a), Value.int IntKind.i64 b, Value.int IntKind.i64 (z - b)] 50) hSt).grown hown2 hgrow2
                obtain ⟨oo2, oc2, rfl⟩ := (holds_of hown2).form
                rw [← chcells_append] at hSt2
                clear hown2 hgrow2 c0
                go_wp2
                go_roundw
                case rel => exact ⟨k + 1, (k : Int) + 1, z + 1, X ++ [⟨a, (k : Int) - a, b, z - b⟩], by omega, ⟨_, _, by rw [List.length_append]; rfl⟩, by go_num, by go_num, by go_num, by omega, by omega, by omega, by omega, by rw [List.length_append]; exact hSt2, by simp; omega, HR⟩
                case measure => simp [intOf]; omega
            · rw [if_neg hcd] at h3
              have HR : Hid ((k + 1 ≤ K.length → Vk (z + 1) m (K.drop (k + 1)) ∧ z + 1 ≤ m ∧ X ++ betw ((k : Int) + 1) (z + 1) (keptR (k + 1 : Nat) (K.drop (k + 1)) ++ [⟨K.length, m, 0⟩]) = L) ∧ (k + 1 = K.length + 1 → X = L)) := ⟨fun _ => ⟨q3, by omega, h3⟩, fun h => by omega⟩
              clear h3 q3
              have n3 : ¬ a < (k : Int) := by omega
              have n4 : ¬ b < z := by omega
              go_wp2
              go_roundw
              case rel => exact ⟨k + 1, (k : Int) + 1, z + 1, X, by omega, ⟨_, _, rfl⟩, by go_num, by go_num, by go_num, by omega, by omega, by omega, by omega, hSt, by omega, HR⟩
              case measure => simp [intOf]; omega
        · by_cases hke : k = K.length
          · have hR' := (hR.out.1 (by omega)).2
            rw [List.drop_of_length_le (by omega), keptR, List.nil_append, betw, betw] at hR'
            dsimp only at hR'
            have HKE : Hid (k = K.length) := hke
            have i2 : ¬ (k : Int) < (K.length : Int) := by omega
            have i3 : (k : Int) ≤ (K.length : Int) := by omega
            have hz2 : decide (m = -1) = false := decide_eq_false (by omega)
            obtain ⟨hbm, h3⟩ := hR'
            rw [← hke] at h3
            clear hR hke
            by_cases hcd : a < (k : Int) ∨ b < m
            · rw [if_pos hcd] at h3
              have HR : Hid ((k + 1 ≤ K.length → Vk (m + 1) m (K.drop (k + 1)) ∧ m + 1 ≤ m ∧ X ++ [⟨a, (k : Int) - a, b, m - b⟩] ++ betw ((k : Int) + 1) (m + 1) (keptR (k + 1 : Nat) (K.drop (k + 1)) ++ [⟨K.length, m, 0⟩]) = L) ∧ (k + 1 = K.length + 1 → X ++ [⟨a, (k : Int) - a, b, m - b⟩] = L)) := ⟨fun h => by have := HKE.out; omega, fun _ => h3⟩
              clear h3
              by_cases hak : a < (k : Int)
              · have n5 : decide (a < (k : Int)) = true := decide_eq_true hak
                go_wp2_with (at_builtin; refine wpList_append_h _ (by kernel_rfl) (.tmp 69) (.tmp 79) 27 50 (.agg #[.int .i64 0, .int .i64 0, .int .i64 0, .int .i64 0]) 4 32 rfl Try.underlying27 infoCh rfl (by decide) (by decide) w.heap.size _ _ _ rfl (hSt.own.alloc _) _ 1 (chcells [⟨a, (k : Int) - a, b, m - b⟩]) rfl (new_holds _ _ _ _ _ (by decide)) rfl (chcells_one _) (by omega) (by simp; omega) ?_)
                intro v2 w2 hown2 hgrow2
                have hSt2 := (st_alloc (Obj.cells #[Value.int IntKind.i64 a, Value.int IntKind.i64 ((k : Int) - a), Value.int IntKind.i64 b, Value.int IntKind.i64 (m - b)] 50) hSt).grown hown2 hgrow2
                obtain ⟨oo2, oc2, rfl⟩ := (holds_of hown2).form
                rw [← chcells_append] at hSt2
                clear hown2 hgrow2
                go_wp2
                go_roundw
                case rel => exact ⟨k + 1, (k : Int) + 1, m + 1, X ++ [⟨a, (k : Int) - a, b, m - b⟩], by omega, ⟨_, _, by rw [List.length_append]; rfl⟩, by go_num, by go_num, by go_num, by omega, by omega, by omega, by omega, by rw [List.length_append]; exact hSt2, by simp; omega, HR⟩
                case measure => simp [intOf]; omega
              · have n6 : b < m := by omega
                go_wp2_with (at_builtin; refine wpList_append_h _ (by kernel_rfl) (.tmp 69) (.tmp 79) 27 50 (.agg #[.int .i64 0, .int .i64 0, .int .i64 0, .int .i64 0]) 4 32 rfl Try.underlying27 infoCh rfl (by decide) (by decide) w.heap.size _ _ _ rfl (hSt.own.alloc _) _ 1 (chcells [⟨a, (k : Int) - a, b, m - b⟩]) rfl (new_holds _ _ _ _ _ (by decide)) rfl (chcells_one _) (by omega) (by simp; omega) ?_)
                intro v2 w2 hown2 hgrow2
                have hSt2 := (st_alloc (Obj.cells #[Value.int IntKind.i64 a, Value.int IntKind.i64 ((k : Int) - a), Value.int IntKind.i64 b, Value.int IntKind.i64 (m - b)] 50) hSt).grown hown2 hgrow2
                obtain ⟨oo2, oc2, rfl⟩ := (holds_of hown2).form
                rw [← chcells_append] at hSt2
                clear hown2 hgrow2
                go_wp2
                go_roundw
                case rel => exact ⟨k + 1, (k : Int) + 1, m + 1, X ++ [⟨a, (k : Int) - a, b, m - b⟩], by omega, ⟨_, _, by rw [List.length_append]; rfl⟩, by go_num, by go_num, by go_num, by omega, by omega, by omega, by omega, by rw [List.length_append]; exact hSt2, by simp; omega, HR⟩
                case measure => simp [intOf]; omega
            · rw [if_neg hcd] at h3
              have HR : Hid ((k + 1 ≤ K.length → Vk (m + 1) m (K.drop (k + 1)) ∧ m + 1 ≤ m ∧ X ++ betw ((k : Int) + 1) (m + 1) (keptR (k + 1 : Nat) (K.drop (k + 1)) ++ [⟨K.length, m, 0⟩]) = L) ∧ (k + 1 = K.length + 1 → X = L)) := ⟨fun h => by have := HKE.out; omega, fun _ => by rw [← h3]; simp⟩
              clear h3
              have n3 : ¬ a < (k : Int) := by omega
              have n4 : ¬ b < m := by omega
              go_wp2
              go_roundw
              case rel => exact ⟨k + 1, (k : Int) + 1, m + 1, X, by omega, ⟨_, _, rfl⟩, by go_num, by go_num, by go_num, by omega, by omega, by omega, by omega, hSt, by omega, HR⟩
              case measure => simp [intOf]; omega
          · obtain rfl : k = K.length + 1 := by omega
            obtain rfl := hR.out.2 rfl
            have i2 : ¬ ((K.length : Int) + 1) ≤ (K.length : Int) := by omega
            go_wp2
            go_ret2
            exact ⟨_, rfl, holds_of hSt.own, hSt.low⟩
end Go.Proofs.Ytoacmaloiaeniab

/- The reference's table of lengths, filled: table, walked. -/
namespace Go.Proofs.Ytoacmaloiaeniab
open Go.RowKit

theorem infoInts : (Try.prog.info? 22).map (fun i => (i.zero, i.size, i.bytes)) = some (some (.slice none 0 0), 1, 24) := by kernel_rfl
/-- make([]T, n) -/
theorem run_makeN {T E : TypeId} {z : Value} {bytes : Nat} (hT : Try.prog.underlying T = some (.slice E)) (hinfo : (Try.prog.info? E).map (fun i => (i.zero, i.size, i.bytes)) = some (some z, 1, bytes)) (hby : bytes ≤ 32) (n : Int) (N : Nat) (hn : n = (N : Int)) (hN : N ≤ 1099511627776) (W : World) :
    (Instr.makeSlice T (.int .i64 n) (.int .i64 n)).run Try.prog W = .ok (.slice (some ⟨W.heap.size, 0, none⟩) N N) (W.alloc (.cells (madeCells z.cells N) E)) := by
  subst hn
  obtain ⟨i0, hi, hz0, hzs, hz2⟩ := info_parts hinfo
  have h1 : i0.bytes * N ≤ 32 * 1099511627776 := by rw [hz2]; exact Nat.mul_le_mul hby hN
  have hr := run_make (P := Try.prog) W T E i0 z hT hi hz0 .i64 .i64 (N : Int) (N : Int) (by omega) (Int.le_refl _) (by
    have : ((i0.bytes * N : Nat) : Int) ≤ 281474976710656 := by omega
    rwa [Int.natCast_mul] at this) (by omega)
  simpa [hzs] using hr
theorem madeL (z : Value) (N : Nat) : (madeCells #[z] N).toList = List.replicate N z := by
  apply List.ext_getElem
  · simp [madeCells]
  · intro i h1 h2
    simp [madeCells, Nat.mod_one]

/-- where row k lies -/
def rowB (B X k : Nat) : Nat := B + 1 + (X - k)
/-- a row as a value -/
def rowV (B X Y k : Nat) : Value := .slice (some ⟨rowB B X k, 0, none⟩) (Y + 1) (Y + 1)
/-- the state of the walk: rows from i on are made, those behind it are filled, row i from c on -/
structure Tb (w : World) (x y : List Int) (i c : Nat) (TS : List Value) (u : World) : Prop where
  low : Below w.heap.size w u
  size : u.heap.size = w.heap.size + 1 + (x.length + 1 - i)
  top : u.ownsRow w.heap.size 22 1 (.slice (some ⟨w.heap.size, 0, none⟩) (x.length + 1) (x.length + 1)) (x.length + 1) TS
  tops : ∀ k, i ≤ k → k ≤ x.length → TS[k]? = some (rowV w.heap.size x.length y.length k)
  rows : ∀ k, i ≤ k → k ≤ x.length → ∃ R, u.ownsRow w.heap.size 3 1 (rowV w.heap.size x.length y.length k) (y.length + 1) R ∧ ∀ j, j ≤ y.length → (i < k ∨ c ≤ j ∨ j = y.length ∨ k = x.length) → R[j]? = some (.int .i64 ((ln x y k j : Nat) : Int))
section
variable {w u : World} {x y : List Int} {i c : Nat} {TS : List Value}
theorem Tb.drewN (h : Tb w x y i c TS u) (n : Nat) : Tb w x y i c TS (u.drewN n) := ⟨Below.dN h.low n, h.size, h.top, h.tops, h.rows⟩
theorem Tb.top_len (h : Tb w x y i c TS u) : TS.length = x.length + 1 := by rw [h.top.1, Nat.mul_one]
theorem Tb.top_at (h : Tb w x y i c TS u) {k : Nat} (hi : i ≤ k) (hk : k ≤ x.length) : u.cell? ⟨w.heap.size, k, none⟩ = some (rowV w.heap.size x.length y.length k) := by
  rw [h.top.cellAt k (by omega)]
  exact h.tops k hi hk
theorem Tb.at (h : Tb w x y i c TS u) {k j : Nat} (hi : i ≤ k) (hk : k ≤ x.length) (hj : j ≤ y.length) (hc : i < k ∨ c ≤ j ∨ j = y.length ∨ k = x.length) : u.cell? ⟨rowB w.heap.size x.length k, j, none⟩ = some (.int .i64 ((ln x y k j : Nat) : Int)) := by
  obtain ⟨R, hR, hv⟩ := h.rows k hi hk
  unfold rowV at hR
  rw [hR.cellAt j (by omega)]
  exact hv j hj hc
theorem Tb.any_at (h : Tb w x y i c TS u) {j : Nat} (hi : i ≤ x.length) (hj : j ≤ y.length) : (∃ z, u.cell? ⟨rowB w.heap.size x.length i, j, none⟩ = some z) ∧ u.frozen? ⟨rowB w.heap.size x.length i, j, none⟩ = false := by
  obtain ⟨R, hR, hv⟩ := h.rows i (Nat.le_refl _) hi
  unfold rowV at hR
  refine ⟨?_, hR.frozenAt j⟩
  rw [hR.cellAt j (by omega)]
  have : R.length = y.length + 1 := by rw [hR.1, Nat.mul_one]
  exact ⟨R[j], List.getElem?_eq_getElem (by omega)⟩
theorem size_set (W : World) (b o : Nat) (v : Value) : (W.setCell ⟨b, o, none⟩ v).heap.size = W.heap.size := by
  show (W.heap.modify b _).size = _
  simp
theorem Tb.skip (h : Tb w x y i (c + 1) TS u) (hc : c = y.length ∨ i = x.length) : Tb w x y i c TS u := by
  refine ⟨h.low, h.size, h.top, h.tops, fun k h1 h2 => ?_⟩
  obtain ⟨R, hR, hv⟩ := h.rows k h1 h2
  exact ⟨R, hR, fun j hj hq => hv j hj (by omega)⟩
theorem Tb.next (h : Tb w x y (i + 1) 0 TS u) (hi : i ≤ x.length) (hY : y.length ≤ 1048576) : Tb w x y i (y.length + 1) (TS.set i (rowV w.heap.size x.length y.length i)) ((u.alloc (.cells (madeCells #[.int .i64 0] (y.length + 1)) 3)).setCell ⟨w.heap.size, i, none⟩ (rowV w.heap.size x.length y.length i)) := by
  have hsz : u.heap.size = rowB w.heap.size x.length i := by rw [h.size]; unfold rowB; omega
  obtain ⟨p1, g1⟩ := (h.top.alloc (.cells (madeCells #[.int .i64 0] (y.length + 1)) 3)).stored i (rowV w.heap.size x.length y.length i)
  refine ⟨?_, ?_, p1, fun k h1 h2 => ?_, fun k h1 h2 => ?_⟩
  · exact (h.low.alloc h.low.size _).grown g1 (by rw [World.size_alloc]; have := h.low.size; omega) (fun j hj => by cases hj; exact Nat.le_refl _)
  · rw [size_set, World.size_alloc, h.size]
    omega
  · by_cases e : k = i
    · subst e
      rw [List.getElem?_set_self (by rw [h.top_len]; omega)]
    · rw [List.getElem?_set_ne (fun q => e q.symm)]
      exact h.tops k (by omega) h2
  · by_cases e : k = i
    · subst e
      have hn := World.ownsRow_lit (base := w.heap.size) (e := 3) (size := 1) u (madeCells #[.int .i64 0] (y.length + 1)) (y.length + 1) h.low.size (by unfold maxLen; omega) (by rw [size_madeCells]; simp)
      rw [madeL, hsz] at hn
      refine ⟨_, hn.kept g1 (.inr (by simp [Value.ownBlock, rowB]; omega)), fun j hj hq => ?_⟩
      rw [List.getElem?_replicate, if_pos (by omega), ln_end x y k j (by omega)]
      rfl
    · obtain ⟨R, hR, hv⟩ := h.rows k (by omega) h2
      exact ⟨R, (hR.alloc _).kept g1 (.inr (by unfold rowV rowB; simp [Value.ownBlock]; omega)), fun j hj hq => hv j hj (by omega)⟩
theorem Tb.set (h : Tb w x y i (c + 1) TS u) (hi : i ≤ x.length) (hc : c ≤ y.length) (v : Int) (hv : v = ((ln x y i c : Nat) : Int)) : Tb w x y i c TS (u.setCell ⟨rowB w.heap.size x.length i, c, none⟩ (.int .i64 v)) := by
  subst hv
  obtain ⟨R, hR, hr⟩ := h.rows i (Nat.le_refl _) hi
  have hR' := hR
  unfold rowV at hR'
  obtain ⟨p1, g1⟩ := hR'.stored c (.int .i64 ((ln x y i c : Nat) : Int))
  have hl : R.length = y.length + 1 := by rw [hR.1, Nat.mul_one]
  refine ⟨?_, ?_, ?_, h.tops, fun k h1 h2 => ?_⟩
  · exact h.low.grown g1 h.low.size (fun j hj => by cases hj; unfold rowB; omega)
  · rw [size_set, h.size]
  · exact h.top.kept g1 (.inr (by simp [Value.ownBlock, rowB]; omega))
  · by_cases e : k = i
    · subst e
      refine ⟨_, p1, fun j hj hq => ?_⟩
      by_cases q : j = c
      · subst q
        rw [List.getElem?_set_self (by omega)]
      · rw [List.getElem?_set_ne (fun q' => q q'.symm)]
        exact hr j hj (by omega)
    · obtain ⟨R2, hR2, hv2⟩ := h.rows k h1 h2
      exact ⟨R2, hR2.kept g1 (.inr (by unfold rowV rowB; simp [Value.ownBlock]; omega)), fun j hj hq => hv2 j hj (by omega)⟩
end
theorem Tb.start (w : World) (x y : List Int) (hX : x.length ≤ 1048576) : Tb w x y (x.length + 1) 0 (List.replicate (x.length + 1) (.slice none 0 0)) (w.alloc (.cells (madeCells #[.slice none 0 0] (x.length + 1)) 22)) := by
  have hn := World.ownsRow_lit (base := w.heap.size) (e := 22) (size := 1) w (madeCells #[.slice none 0 0] (x.length + 1)) (x.length + 1) (Nat.le_refl _) (by unfold maxLen; omega) (by rw [size_madeCells]; simp)
  rw [madeL] at hn
  exact ⟨(Below.refl _ w).alloc (Nat.le_refl _) _, by simp, hn, fun k h1 h2 => by omega, fun k h1 h2 => by omega⟩
/-- what the table tells -/
structure Rd (B : Nat) (x y : List Int) (u : World) : Prop where
  lt : B + 1 + x.length < u.heap.size
  top : ∀ k, k ≤ x.length → u.cell? ⟨B, k, none⟩ = some (rowV B x.length y.length k)
  at' : ∀ k j, k ≤ x.length → j ≤ y.length → u.cell? ⟨rowB B x.length k, j, none⟩ = some (.int .i64 ((ln x y k j : Nat) : Int))
theorem cell_keep {u u' : World} (h : Below u.heap.size u u') {b o : Nat} {v : Value} (hb : b < u.heap.size) (hc : u.cell? ⟨b, o, none⟩ = some v) : u'.cell? ⟨b, o, none⟩ = some v := by
  rw [← hc]
  unfold World.cell?
  rw [h.block b hb]
theorem Rd.keep {B : Nat} {x y : List Int} {u u' : World} (h : Rd B x y u) (hb : Below u.heap.size u u') : Rd B x y u' := by
  have := h.lt
  refine ⟨Nat.lt_of_lt_of_le h.lt hb.size, fun k hk => cell_keep hb (by omega) (h.top k hk), fun k j hk hj => cell_keep hb ?_ (h.at' k j hk hj)⟩
  unfold rowB
  omega
theorem Tb.rd {w u : World} {x y : List Int} {TS : List Value} (h : Tb w x y 0 0 TS u) : Rd w.heap.size x y u :=
  ⟨by rw [h.size]; omega, fun _ hk => h.top_at (Nat.zero_le _) hk, fun _ _ hk hj => h.at (Nat.zero_le _) hk hj (.inr (.inl (Nat.zero_le _)))⟩

set_option maxRecDepth 10000 in
set_option maxHeartbeats 4000000 in
theorem table_f (x y : List Int) (vx vy : Value) (w : World) (hx : HI w vx x) (hy : HI w vy y) (hxl : x.length ≤ 4096) (hyl : y.length ≤ 4096) :
    Calls Try.prog 26 #[vx, vy] w fun e w' => e = .returned (.slice (some ⟨w.heap.size, 0, none⟩) (x.length + 1) (x.length + 1)) ∧ Rd w.heap.size x y w' ∧ Below w.heap.size w w' := by
  obtain ⟨xo, xc, rfl⟩ := Holds.form hx
  obtain ⟨yo, yc, rfl⟩ := Holds.form hy
  have hmk1 := run_makeN (T := 47) Try.underlying47 infoInts (by decide) ((x.length : Int) + 1) (x.length + 1) (by simp) (by omega)
  have hmk2 := run_makeN (T := 22) Try.underlying22 infoInt (by decide) ((y.length : Int) + 1) (y.length + 1) (by simp) (by omega)
  have hst := Tb.start w x y (by omega)
  go_enter Try.func26, Try.ntmps26
  go_wp2
  go_loopw [6] (fun iv wr => ∃ (k : Nat) (z : Int) (TS : List Value), k ≤ x.length + 1 ∧ iv = .int .i64 z ∧ z + 1 = k ∧ Tb w x y k 0 TS wr) (fun iv _ => (intOf iv + 1).toNat)
  case atStart => exact ⟨x.length + 1, (x.length : Int), _, Nat.le_refl _, rfl, by simp, hst⟩
  case round =>
    clear hst hmk1
    obtain ⟨k, z, TS, hk, rfl, hz, hS⟩ := hrel
    cases k with
    | zero =>
      obtain rfl : z = -1 := by omega
      go_wp2
      go_ret
      exact ⟨rfl, hS.rd, hS.low⟩
    | succ i =>
      obtain rfl : z = (i : Int) := by omega
      clear hz
      have c0 := hS.top.cellAt i (by omega)
      rw [List.getElem?_eq_getElem (by rw [hS.top_len]; omega)] at c0
      obtain ⟨z0, hz0⟩ : ∃ z, TS[i]'(by rw [hS.top_len]; omega) = z := ⟨_, rfl⟩
      rw [hz0] at c0
      have f0 := hS.top.frozenAt i
      clear hz0
      have i1 : 0 ≤ (i : Int) := by omega
      have i2 : (i : Int) < (x.length : Int) + 1 := by omega
      have hsz : wr.heap.size = rowB w.heap.size x.length i := by rw [hS.size]; unfold rowB; omega
      have hN := hS.next (by omega) (by omega)
      unfold rowV at hN
      have c0' : (wr.alloc (Obj.cells (madeCells #[Value.int IntKind.i64 0] (y.length + 1)) 3)).cell? ⟨w.heap.size, i, none⟩ = some z0 := cell_keep ((Below.refl _ wr).alloc (Nat.le_refl _) _) (by rw [hS.size]; omega) c0
      have f0' : (wr.alloc (Obj.cells (madeCells #[Value.int IntKind.i64 0] (y.length + 1)) 3)).frozen? ⟨w.heap.size, i, none⟩ = false := (hS.top.alloc _).frozenAt i
      clear c0 f0
      go_wp2
      go_loopw [7] (fun jv wi => ∃ (c : Nat) (z : Int) (TS' : List Value), c ≤ y.length + 1 ∧ jv = .int .i64 z ∧ z + 1 = c ∧ Tb w x y i c TS' wi) (fun jv _ => (intOf jv + 1).toNat)
      case atStart => exact ⟨y.length + 1, (y.length : Int), _, Nat.le_refl _, rfl, by simp, hN⟩
      case round =>
        clear hS c0' f0' hN hsz hmk2
        obtain ⟨c, z, TS', hc, rfl, hz, hS⟩ := hrel
        cases c with
        | zero =>
          obtain rfl : z = -1 := by omega
          go_wp2
          go_roundw
          case rel => exact ⟨i, (i : Int) - 1, TS', by omega, by go_num, by omega, hS⟩
          case measure => simp [intOf]
        | succ j =>
          obtain rfl : z = (j : Int) := by omega
          clear hz
          by_cases he : i = x.length
          · have hS' := hS.skip (.inr he)
            have he' : decide ((i : Int) = (x.length : Int)) = true := decide_eq_true (by omega)
            clear i2
            go_wp2
            go_roundw
            case rel => exact ⟨j, (j : Int) - 1, TS', by omega, by go_num, by omega, hS'⟩
            case measure => simp [intOf]
          · have he' : ((i : Int) == (x.length : Int)) = false := by simp; omega
            by_cases hf : j = y.length
            · have hS' := hS.skip (.inl hf)
              have hf' : decide ((j : Int) = (y.length : Int)) = true := decide_eq_true (by omega)
              go_wp2
              go_roundw
              case rel => exact ⟨j, (j : Int) - 1, TS', by omega, by go_num, by omega, hS'⟩
              case measure => simp [intOf]; omega
            · have hf' : ((j : Int) == (y.length : Int)) = false := by simp; omega
              obtain ⟨bx, ox, rfl, _, hcx⟩ := HI.at (HI.keep hx hS.low (Nat.le_refl _)) (by omega)
              obtain ⟨by', oy, rfl, _, hcy⟩ := HI.at (HI.keep hy hS.low (Nat.le_refl _)) (by omega)
              have d1 := hcx i (by omega)
              have d2 := hcy j (by omega)
              have hln := ln_step x y i j (by omega) (by omega)
              obtain ⟨xi, hxi⟩ : ∃ z, x[i] = z := ⟨_, rfl⟩
              obtain ⟨yj, hyj⟩ : ∃ z, y[j] = z := ⟨_, rfl⟩
              rw [hxi] at d1 hln
              rw [hyj] at d2 hln
              clear hcx hcy hxi hyj
              have t1 := hS.top_at (k := i) (Nat.le_refl _) (by omega)
              have t2 := hS.top_at (k := i + 1) (by omega) (by omega)
              have r1 := hS.at (k := i + 1) (j := j + 1) (by omega) (by omega) (by omega) (by omega)
              have r2 := hS.at (k := i + 1) (j := j) (by omega) (by omega) (by omega) (by omega)
              have r3 := hS.at (k := i) (j := j + 1) (by omega) (by omega) (by omega) (by omega)
              obtain ⟨⟨z0, c0⟩, f0⟩ := hS.any_at (j := j) (by omega) (by omega)
              unfold rowV at t1 t2
              have hgen : ∀ (n : Nat) (v : Int), v = ((ln x y i j : Nat) : Int) → Tb w x y i j TS' ((wr.drewN n).setCell ⟨rowB w.heap.size x.length i, j, none⟩ (.int .i64 v)) := fun n v hv => (hS.drewN n).set (by omega) (by omega) v hv
              have HLN : Hid (ln x y i j = if xi = yj then ln x y (i + 1) (j + 1) + 1 else max (ln x y (i + 1) j) (ln x y i (j + 1))) := hln
              have b1 := ln_le x y (i + 1) (j + 1)
              have b2 := ln_le x y (i + 1) j
              have b3 := ln_le x y i (j + 1)
              clear hln
              have j1 : 0 ≤ (j : Int) := by omega
              have j2 : (j : Int) < (y.length : Int) := by omega
              have j3 : (j : Int) + 1 < (y.length : Int) + 1 := by omega
              have j4 : (j : Int) < (y.length : Int) + 1 := by omega
              have i3 : (i : Int) + 1 < (x.length : Int) + 1 := by omega
              have i4 : (i : Int) < (x.length : Int) := by omega
              generalize rowB w.heap.size x.length i = gi at *
              generalize rowB w.heap.size x.length (i + 1) = gj at *
              by_cases hxy : xi = yj
              · have HL : Hid (ln x y i j = ln x y (i + 1) (j + 1) + 1) := (by show _ = _; rw [HLN.out, if_pos hxy])
                clear HLN r2 r3 b2 b3
                generalize ln x y (i + 1) (j + 1) = a1 at *
                have hxy' : decide (xi = yj) = true := decide_eq_true hxy
                go_wp2_with fail
                go_quiet (fail)
                go_wp2_with fail
                go_region
                go_wp2
                exact ⟨⟨j, (j : Int) - 1, TS', by omega, by go_num, by omega, hgen _ _ (by rw [HL.out]; simp)⟩, by simp [intOf]⟩
              · have HL : Hid (ln x y i j = max (ln x y (i + 1) j) (ln x y i (j + 1))) := (by show _ = _; rw [HLN.out, if_neg hxy])
                clear HLN r1 b1
                have hxy' : decide (xi = yj) = false := decide_eq_false hxy
                generalize ln x y (i + 1) j = a1 at *
                generalize ln x y i (j + 1) = a2 at *
                go_wp2_with fail
                go_quiet (fail)
                go_wp2_with fail
                go_region
                go_wp2
                exact ⟨⟨j, (j : Int) - 1, TS', by omega, by go_num, by omega, hgen _ _ (by rw [HL.out]; split <;> omega)⟩, by simp [intOf]⟩
end Go.Proofs.Ytoacmaloiaeniab

/- What the least edit script keeps, by the reference: Keeps, Length and Diff, walked. -/
namespace Go.Proofs.Ytoacmaloiaeniab
open Go.RowKit

set_option maxRecDepth 10000 in
set_option maxHeartbeats 4000000 in
theorem Keeps_own (x y : List Int) (vx vy : Value) (w : World) (hx : HI w vx x) (hy : HI w vy y) (hxl : x.length ≤ 4096) (hyl : y.length ≤ 4096) (K : List Int) (hK : Hid (kp 0 x y = K)) :
    Calls Try.prog 25 #[vx, vy] w fun e w' => ∃ v' B, e = .returned v' ∧ w.heap.size ≤ B ∧ w'.ownsRow B 3 1 v' K.length (icells K) ∧ Below w.heap.size w w' := by
  obtain ⟨xo, xc, rfl⟩ := Holds.form hx
  obtain ⟨yo, yc, rfl⟩ := Holds.form hy
  have HKl : Hid (K.length = x.length) := (by show _ = _; rw [← hK.out, kp_length])
  go_enter Try.func25, Try.ntmps25
  go_wp2_with fail
  refine (table_f x y _ _ w hx hy hxl hyl).mono ?_
  rintro e w1 ⟨rfl, hR, hB1⟩
  go_wp2
  go_loopw [6, 7, 8] (fun kv jv iv wr => ∃ (i j : Nat) (Z : List Int) (zo : Option Addr) (zc : Nat), i ≤ x.length ∧ j ≤ y.length ∧ iv = .int .i64 i ∧ jv = .int .i64 j ∧ kv = .slice zo i zc ∧ Z.length = i ∧ wr.ownsRow w1.heap.size 3 1 (.slice zo i zc) i (icells Z) ∧ Below w1.heap.size w1 wr ∧ Hid (Z ++ kp j (x.drop i) (y.drop j) = K)) (fun _ jv iv _ => (x.length - (intOf iv).toNat) + (y.length - (intOf jv).toNat))
  case atStart => exact ⟨0, 0, [], none, 0, Nat.zero_le _, Nat.zero_le _, rfl, rfl, rfl, rfl, World.ownsRow_nil _ _ _ _, Below.refl _ _, hK⟩
  case round =>
    obtain ⟨i, j, Z, zo, zc, hi, hj, rfl, rfl, rfl, hZl, hO, hB, HZ⟩ := hrel
    have hs := hB.size
    have hB0 : Below w.heap.size w wr := hB1.trans (hB.mono hB1.size)
    by_cases hil : i < x.length
    · obtain ⟨bx, ox, rfl, _, hcx⟩ := HI.at (HI.keep hx hB0 (Nat.le_refl _)) (by omega)
      have d1 := hcx i hil
      obtain ⟨xi, hxi⟩ : ∃ z, x[i] = z := ⟨_, rfl⟩
      rw [hxi] at d1
      clear hcx
      have i1 : 0 ≤ (i : Int) := by omega
      have i2 : (i : Int) < (x.length : Int) := by omega
      by_cases hjl : j < y.length
      · obtain ⟨by', oy, rfl, _, hcy⟩ := HI.at (HI.keep hy hB0 (Nat.le_refl _)) (by omega)
        have d2 := hcy j hjl
        obtain ⟨yj, hyj⟩ : ∃ z, y[j] = z := ⟨_, rfl⟩
        rw [hyj] at d2
        clear hcy
        have hRr := hR.keep hB
        have hkp := kp_step j x y i j hil hjl
        rw [hxi, hyj] at hkp
        have t1 := hRr.top i hi
        have t2 := hRr.top (i + 1) (by omega)
        have r1 := hRr.at' (i + 1) j (by omega) (by omega)
        have r2 := hRr.at' i (j + 1) (by omega) (by omega)
        unfold rowV at t1 t2
        have b1 := ln_le x y (i + 1) j
        have b2 := ln_le x y i (j + 1)
        have HKP : Hid (kp j (x.drop i) (y.drop j) = if xi = yj then (j : Int) :: kp ((j : Int) + 1) (x.drop (i + 1)) (y.drop (j + 1)) else if ln x y i (j + 1) ≤ ln x y (i + 1) j then -1 :: kp j (x.drop (i + 1)) (y.drop j) else kp ((j : Int) + 1) (x.drop i) (y.drop (j + 1))) := hkp
        clear hkp hxi hyj hRr
        have i3 : (i : Int) + 1 < (x.length : Int) + 1 := by omega
        have i4 : (i : Int) < (x.length : Int) + 1 := by omega
        have j1 : 0 ≤ (j : Int) := by omega
        have j2 : (j : Int) < (y.length : Int) := by omega
        have j3 : (j : Int) + 1 < (y.length : Int) + 1 := by omega
        have j4 : (j : Int) < (y.length : Int) + 1 := by omega
        have hje : ((j : Int) == (y.length : Int)) = false := by simp; omega
        generalize rowB w.heap.size x.length i = gi at *
        generalize rowB w.heap.size x.length (i + 1) = gj at *
        generalize ln x y (i + 1) j = a1 at *
        generalize ln x y i (j + 1) = a2 at *
        by_cases hxy : xi = yj
        · have HK2 : Hid ((Z ++ [(j : Int)]) ++ kp ((j + 1 : Nat) : Int) (x.drop (i + 1)) (y.drop (j + 1)) = K) := (by
            show _ = _
            rw [← HZ.out, HKP.out, if_pos hxy]
            simp)
          clear HKP
          subst hxy
          have e1 : (xi == xi) = true := by simp
          have e2 : (xi != xi) = false := by simp
          go_wp2_with fail
          go_big_quiet (fail)
          revert nq
          intro n1
          go_wp2_with fail
          go_quiet (fail)
          have hOd : ((wr.drewN n1).drewN nq).ownsRow w1.heap.size 3 1 (.slice zo i zc) i (icells Z) := hO
          have hBd : Below w1.heap.size w1 ((wr.drewN n1).drewN nq) := Below.dN (Below.dN hB n1) nq
          generalize (wr.drewN n1).drewN nq = wd at hOd hBd ⊢
          have hsd := hBd.size
          go_wp2_with (at_builtin; refine wpList_append_h _ (by kernel_rfl) (.tmp 68) (.tmp 70) 22 3 (.int .i64 0) 1 8 rfl Try.underlying22 infoInt rfl (by decide) (by decide) w1.heap.size (.slice zo i zc) i (icells Z) (by kernel_rfl) (hOd.alloc _) (.slice (some ⟨wd.heap.size, 0, none⟩) 1 1) 1 (icells [(j : Int)]) (by kernel_rfl) (new_holds wd _ _ 1 1 (by decide)) rfl (icells_one _) (by omega) (by simp; omega) ?_)
          intro v3 w3 hown3 hgrow3
          have hB3 : Below w1.heap.size w1 w3 := (hBd.alloc (by omega) _).grown hgrow3 (by simp; omega) (fun _ hj => owns_ge hO hj)
          rw [← icells_append] at hown3
          obtain ⟨zo3, zc3, rfl⟩ := (holds_of hown3).form
          clear hgrow3
          go_wp2
          go_roundw
          case rel => exact ⟨i + 1, j + 1, Z ++ [(j : Int)], zo3, zc3, by omega, by omega, by go_num, by go_num, rfl, by simp [hZl], hown3, hB3, HK2⟩
          case measure => simp [intOf]; omega
        · have e1 : (xi == yj) = false := by simp [hxy]
          have e2 : (xi != yj) = true := by simp [hxy]
          by_cases hle : a2 ≤ a1
          · have HK2 : Hid ((Z ++ [-1]) ++ kp (j : Int) (x.drop (i + 1)) (y.drop j) = K) := (by
              show _ = _
              rw [← HZ.out, HKP.out, if_neg hxy, if_pos hle]
              simp)
            clear HKP
            go_wp2_with fail
            go_big_quiet (fail)
            have hOd : (wr.drewN nq).ownsRow w1.heap.size 3 1 (.slice zo i zc) i (icells Z) := hO
            have hBd : Below w1.heap.size w1 (wr.drewN nq) := Below.dN hB nq
            generalize wr.drewN nq = wd at hOd hBd ⊢
            have hsd := hBd.size
            go_wp2_with (at_builtin; refine wpList_append_h _ (by kernel_rfl) (.tmp 53) (.tmp 54) 22 3 (.int .i64 0) 1 8 rfl Try.underlying22 infoInt rfl (by decide) (by decide) w1.heap.size (.slice zo i zc) i (icells Z) (by kernel_rfl) (hOd.alloc _) (.slice (some ⟨wd.heap.size, 0, none⟩) 1 1) 1 (icells [-1]) (by kernel_rfl) (new_holds wd _ _ 1 1 (by decide)) rfl (icells_one _) (by omega) (by simp; omega) ?_)
            intro v3 w3 hown3 hgrow3
            have hB3 : Below w1.heap.size w1 w3 := (hBd.alloc (by omega) _).grown hgrow3 (by simp; omega) (fun _ hj => owns_ge hO hj)
            rw [← icells_append] at hown3
            obtain ⟨zo3, zc3, rfl⟩ := (holds_of hown3).form
            clear hgrow3
            go_wp2
            go_roundw
            case rel => exact ⟨i + 1, j, Z ++ [-1], zo3, zc3, by omega, by omega, by go_num, rfl, rfl, by simp [hZl], hown3, hB3, HK2⟩
            case measure => simp [intOf]; omega
          · have HK2 : Hid (Z ++ kp ((j + 1 : Nat) : Int) (x.drop i) (y.drop (j + 1)) = K) := (by
              show _ = _
              rw [← HZ.out, HKP.out, if_neg hxy, if_neg hle]
              simp)
            clear HKP
            have e3 : decide ((a2 : Int) ≤ (a1 : Int)) = false := decide_eq_false (by omega)
            have e4 : decide (a2 ≤ a1) = false := decide_eq_false hle
            go_wp2_with fail
            go_big_quiet (fail)
            go_wp2_with fail
            go_quiet (fail)
            go_wp2
            exact ⟨⟨i, j + 1, Z, zo, zc, hi, by omega, rfl, by go_num, rfl, hZl, hO, Below.dN hB _, HK2⟩, by simp [intOf]; omega⟩
      · have HK2 : Hid ((Z ++ [-1]) ++ kp (j : Int) (x.drop (i + 1)) (y.drop j) = K) := (by
          show _ = _
          rw [← HZ.out, show y.drop j = [] by rw [List.drop_eq_nil_iff]; omega, List.drop_eq_getElem_cons hil, kp]
          simp)
        have hje : ((j : Int) == (y.length : Int)) = true := by simp; omega
        go_wp2_with fail
        go_big_quiet (fail)
        have hOd : (wr.drewN nq).ownsRow w1.heap.size 3 1 (.slice zo i zc) i (icells Z) := hO
        have hBd : Below w1.heap.size w1 (wr.drewN nq) := Below.dN hB nq
        generalize wr.drewN nq = wd at hOd hBd ⊢
        have hsd := hBd.size
        go_wp2_with (at_builtin; refine wpList_append_h _ (by kernel_rfl) (.tmp 53) (.tmp 54) 22 3 (.int .i64 0) 1 8 rfl Try.underlying22 infoInt rfl (by decide) (by decide) w1.heap.size (.slice zo i zc) i (icells Z) (by kernel_rfl) (hOd.alloc _) (.slice (some ⟨wd.heap.size, 0, none⟩) 1 1) 1 (icells [-1]) (by kernel_rfl) (new_holds wd _ _ 1 1 (by decide)) rfl (icells_one _) (by omega) (by simp; omega) ?_)
        intro v3 w3 hown3 hgrow3
        have hB3 : Below w1.heap.size w1 w3 := (hBd.alloc (by omega) _).grown hgrow3 (by simp; omega) (fun _ hj => owns_ge hO hj)
        rw [← icells_append] at hown3
        obtain ⟨zo3, zc3, rfl⟩ := (holds_of hown3).form
        clear hgrow3
        go_wp2
        go_roundw
        case rel => exact ⟨i + 1, j, Z ++ [-1], zo3, zc3, by omega, by omega, by go_num, rfl, rfl, by simp [hZl], hown3, hB3, HK2⟩
        case measure => simp [intOf]; omega
    · obtain rfl : i = x.length := by omega
      have hZK : Z = K := by rw [← HZ.out, show x.drop x.length = [] by simp, kp_nil, List.append_nil]
      subst hZK
      go_wp2
      go_ret
      exact ⟨_, _, rfl, hB1.size, by rw [hZl]; exact hO, hB0⟩
theorem Keeps_f (x y : List Int) (vx vy : Value) (w : World) (hx : HI w vx x) (hy : HI w vy y) (hxl : x.length ≤ 4096) (hyl : y.length ≤ 4096) (K : List Int) (hK : Hid (kp 0 x y = K)) :
    Calls Try.prog 25 #[vx, vy] w fun e w' => ∃ v', e = .returned v' ∧ HI w' v' K ∧ Below w.heap.size w w' := by
  refine (Keeps_own x y vx vy w hx hy hxl hyl K hK).mono ?_
  rintro e w' ⟨v', B, rfl, _, ho, hb⟩
  exact ⟨v', rfl, holds_of ho, hb⟩
end Go.Proofs.Ytoacmaloiaeniab

/- The reference's Length and Diff, walked. -/
namespace Go.Proofs.Ytoacmaloiaeniab
open Go.RowKit

theorem betw_len (a b : Int) (l : List Rn) : (betw a b l).length ≤ l.length := by
  induction l generalizing a b with
  | nil => simp [betw]
  | cons r l ih =>
    rw [betw]
    have := ih (r.a + r.n) (r.b + r.n)
    split <;> simp <;> omega

set_option maxRecDepth 10000 in
theorem rLength_f (x y : List Int) (vx vy : Value) (w : World) (hx : HI w vx x) (hy : HI w vy y) (hxl : x.length ≤ 4096) (hyl : y.length ≤ 4096) (r : Nat) (hr : Hid (lc x y = r)) :
    Calls Try.prog 12 #[vx, vy] w fun e w' => e = .returned (.tuple #[.int .i64 (r : Int), .int .i64 0]) ∧ Below w.heap.size w w' := by
  obtain ⟨xo, xc, rfl⟩ := Holds.form hx
  obtain ⟨yo, yc, rfl⟩ := Holds.form hy
  go_enter Try.func12, Try.ntmps12
  go_wp2_with fail
  refine (table_f x y _ _ w hx hy hxl hyl).mono ?_
  rintro e w1 ⟨rfl, hR, hB1⟩
  have t := hR.top 0 (Nat.zero_le _)
  have c := hR.at' 0 0 (Nat.zero_le _) (Nat.zero_le _)
  rw [ln_zero, hr.out] at c
  unfold rowV at t
  generalize rowB w.heap.size x.length 0 = g at *
  go_wp2
  go_ret2
  exact ⟨rfl, hB1⟩

set_option maxRecDepth 10000 in
theorem rDiff_f (x y : List Int) (vx vy : Value) (w : World) (hx : HI w vx x) (hy : HI w vy y) (hxl : x.length ≤ 4096) (hyl : y.length ≤ 4096) (L : List Ch) (hL : Hid (mkL (kp 0 x y) y.length = L)) :
    Calls Try.prog 11 #[vx, vy] w fun e w' => ∃ v', e = .returned (.tuple #[v', .int .i64 0]) ∧ HCh w' v' L ∧ Below w.heap.size w w' := by
  obtain ⟨xo, xc, rfl⟩ := Holds.form hx
  obtain ⟨yo, yc, rfl⟩ := Holds.form hy
  go_enter Try.func11, Try.ntmps11
  go_wp2_with fail
  refine (Keeps_f x y _ _ w hx hy hxl hyl (kp 0 x y) rfl).mono ?_
  rintro e w1 ⟨v, rfl, hv, hB1⟩
  have hkl := kp_length 0 x y
  have hvk : Hid (Vk 0 (y.length : Int) (kp 0 x y)) := (by
    have := kp_vk 0 x y (Int.le_refl _)
    rw [Int.zero_add] at this
    exact this)
  generalize kp 0 x y = K at *
  obtain ⟨o1, c1, rfl⟩ := Holds.form hv
  have hKl : K.length ≤ 1048576 := by omega
  have HKL : Hid (K.length = x.length) := hkl
  clear hkl
  go_wp2_with fail
  refine (rMake_f K y.length L _ _ hv hKl hvk (by omega) (by omega) hL).mono ?_
  rintro e w2 ⟨v2, rfl, hv2, hB2⟩
  obtain ⟨o2, c2, rfl⟩ := Holds.form hv2
  go_wp2
  go_ret2
  exact ⟨_, rfl, hv2, hB1.trans (hB2.mono hB1.size)⟩
end Go.Proofs.Ytoacmaloiaeniab
