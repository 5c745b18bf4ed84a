/-
  The reference's Make, walked.
-/
import Derived.Test.YtppdcjjkkckokaaEdMk
namespace Go.Proofs.Ytppdcjjkkckokaa
open Go.RowKit

set_option maxRecDepth 10000 in
set_option maxHeartbeats 4000000 in
theorem rMake_f (K : List Int) (m : Int) (L : List Ch) (v : Value) (w : World) (hK : HI w v K) (hlen : K.length ≤ 1048576) (hV : Hid (Vk 0 m K)) (hm0 : 0 ≤ m) (hm : m ≤ 2147483647) (hL : Hid (mkL K m = L)) :
    Calls Try.prog 35 #[v, .int .i64 m] w fun e w' => ∃ v', e = .returned (.tuple #[v', .int .i64 0]) ∧ HCh w' v' L ∧ Below w.heap.size w w' := by
  obtain ⟨ao, ca, rfl⟩ := Holds.form hK
  go_enter Try.func35, Try.ntmps35
  go_wp2
  go_loopw [6, 7] (fun lv iv wr => ∃ (k : Nat) (la : Int), k ≤ K.length ∧ lv = .int .i64 la ∧ iv = .int .i64 (k : Int) ∧ -1 ≤ la ∧ la ≤ m ∧ w = wr ∧ Hid (Vk (la + 1) m (K.drop k))) (fun _ iv _ => K.length - (intOf iv).toNat)
  case atStart => exact ⟨0, -1, Nat.zero_le _, rfl, rfl, by omega, by omega, rfl, hV⟩
  case round =>
    obtain ⟨k, la, hk, rfl, rfl, hl0, hl1, rfl, hR⟩ := hrel
    by_cases hlt : k < K.length
    · obtain ⟨bk, off, rfl, hbk, hc⟩ := HI.at hK (by omega)
      have c0 := hc k hlt
      have hR' := hR.out
      rw [List.drop_eq_getElem_cons hlt] at hR'
      obtain ⟨z, hzd⟩ : ∃ z, K[k] = z := ⟨_, rfl⟩
      rw [hzd] at hR' c0
      clear hc hzd hR
      have i1 : 0 ≤ (k : Int) := by omega
      have i2 : (k : Int) < (K.length : Int) := by omega
      by_cases hz : z = -1
      · subst hz
        have HR : Hid (Vk (la + 1) m (K.drop (k + 1))) := (by
          rcases hR' with ⟨_, h1⟩ | ⟨h1, _⟩
          · exact h1
          · exact absurd rfl h1)
        clear hR'
        go_wp2
        go_roundw
        case rel => exact ⟨k + 1, la, by omega, rfl, by go_num, hl0, hl1, by first | rfl | trivial, HR⟩
        case measure => simp [intOf]; omega
      · have hq : la + 1 ≤ z ∧ z < m ∧ Vk (z + 1) m (K.drop (k + 1)) := by
          rcases hR' with ⟨h1, _⟩ | ⟨_, h1⟩
          · exact absurd h1 hz
          · exact h1
        obtain ⟨q1, q2, q3⟩ := hq
        have HR : Hid (Vk (z + 1) m (K.drop (k + 1))) := q3
        clear hR' q3
        have hz2 : decide (z = -1) = false := decide_eq_false hz
        have n1 : ¬ z ≤ la := by omega
        have n2 : ¬ m ≤ z := by omega
        go_wp2
        go_roundw
        case rel => exact ⟨k + 1, z, by omega, rfl, by go_num, by omega, by omega, by first | rfl | trivial, HR⟩
        case measure => simp [intOf]; omega
    · have n0 : ¬ m < 0 := by omega
      have i2 : ¬ (k : Int) < (K.length : Int) := by omega
      clear hR
      go_wp2
      go_loopw [8, 9, 10, 11] (fun ov av bv iv wr => ∃ (k : Nat) (a b : Int) (X : List Ch), k ≤ K.length + 1 ∧ (∃ oo oc, ov = .slice oo X.length oc) ∧ av = .int .i64 a ∧ bv = .int .i64 b ∧ iv = .int .i64 (k : Int) ∧ 0 ≤ a ∧ a ≤ k ∧ 0 ≤ b ∧ b ≤ m + 1 ∧ St w 59 4 ov X.length (chcells X) wr ∧ X.length ≤ k ∧ Hid ((k ≤ K.length → Vk b m (K.drop k) ∧ b ≤ m ∧ X ++ betw a b (keptR k (K.drop k) ++ [⟨K.length, m, 0⟩]) = L) ∧ (k = K.length + 1 → X = L))) (fun _ _ _ iv _ => K.length + 1 - (intOf iv).toNat)
      case atStart => exact ⟨0, 0, 0, [], Nat.zero_le _, ⟨_, _, rfl⟩, rfl, rfl, rfl, by omega, by omega, by omega, by omega, ⟨World.ownsRow_nil _ _ _ _, Below.refl _ w⟩, Nat.zero_le _, ⟨fun _ => ⟨hV.out, hm0, hL.out⟩, fun h => by omega⟩⟩
      case round =>
        clear hlt i2 hk
        obtain ⟨k, a, b, X, hk, ⟨oo, oc, rfl⟩, rfl, rfl, rfl, ha0, ha1, hb0, hb1, hSt, hX, hR⟩ := hrel
        have hsz := hSt.low.size
        by_cases hlt : k < K.length
        · obtain ⟨bk, off, rfl, hbk, hc⟩ := HI.at (HI.keep hK hSt.low (Nat.le_refl _)) (by omega)
          have c0 := hc k hlt
          have hR' := hR.out.1 (by omega)
          rw [List.drop_eq_getElem_cons hlt] at hR'
          obtain ⟨z, hzd⟩ : ∃ z, K[k] = z := ⟨_, rfl⟩
          rw [hzd] at hR' c0
          clear hc hzd hR
          have i1 : 0 ≤ (k : Int) := by omega
          have i2 : (k : Int) < (K.length : Int) := by omega
          have i3 : (k : Int) ≤ (K.length : Int) := by omega
          by_cases hz : z = -1
          · subst hz
            have HR : Hid ((k + 1 ≤ K.length → Vk b m (K.drop (k + 1)) ∧ b ≤ m ∧ X ++ betw a b (keptR (k + 1 : Nat) (K.drop (k + 1)) ++ [⟨K.length, m, 0⟩]) = L) ∧ (k + 1 = K.length + 1 → X = L)) := (by
              obtain ⟨h1, h2, h3⟩ := hR'
              rw [keptR, if_pos rfl] at h3
              rcases h1 with ⟨_, h1⟩ | ⟨h1, _⟩
              · exact ⟨fun _ => ⟨h1, h2, h3⟩, fun h => by omega⟩
              · exact absurd rfl h1)
            clear hR'
            go_wp2
            go_roundw
            case rel => exact ⟨k + 1, a, b, X, by omega, ⟨_, _, rfl⟩, rfl, rfl, by go_num, ha0, by omega, hb0, hb1, hSt, by omega, HR⟩
            case measure => simp [intOf]; omega
          · have hq : b ≤ z ∧ z < m ∧ Vk (z + 1) m (K.drop (k + 1)) := by
              rcases hR'.1 with ⟨h1, _⟩ | ⟨_, h1⟩
              · exact absurd h1 hz
              · exact h1
            obtain ⟨q1, q2, q3⟩ := hq
            have hz2 : decide (z = -1) = false := decide_eq_false hz
            have h3 := hR'.2.2
            rw [keptR, if_neg hz, List.cons_append, betw] at h3
            dsimp only at h3
            clear hR'
            by_cases hcd : a < (k : Int) ∨ b < z
            · rw [if_pos hcd] at h3
              have HR : Hid ((k + 1 ≤ K.length → Vk (z + 1) m (K.drop (k + 1)) ∧ z + 1 ≤ m ∧ X ++ [⟨a, (k : Int) - a, b, z - b⟩] ++ betw ((k : Int) + 1) (z + 1) (keptR (k + 1 : Nat) (K.drop (k + 1)) ++ [⟨K.length, m, 0⟩]) = L) ∧ (k + 1 = K.length + 1 → X ++ [⟨a, (k : Int) - a, b, z - b⟩] = L)) := ⟨fun _ => ⟨q3, by omega, by rw [← h3]; simp⟩, fun h => by omega⟩
              clear h3 q3
              by_cases hak : a < (k : Int)
              · have n5 : decide (a < (k : Int)) = true := decide_eq_true hak
                go_wp2_with (at_builtin; refine wpList_append_h _ (by kernel_rfl) (.tmp 69) (.tmp 79) 22 59 (.agg #[.int .i64 0, .int .i64 0, .int .i64 0, .int .i64 0]) 4 32 rfl Try.underlying22 infoCh rfl (by decide) (by decide) w.heap.size _ _ _ rfl (hSt.own.alloc _) _ 1 (chcells [⟨a, (k : Int) - a, b, z - b⟩]) rfl (new_holds _ _ _ _ _ (by decide)) rfl (chcells_one _) (by omega) (by simp; omega) ?_)
                intro v2 w2 hown2 hgrow2
                have hSt2 := (st_alloc (Obj.cells #[Value.int IntKind.i64 a, Value.int IntKind.i64 ((k : Int) - a), Value.int IntKind.i64 b, Value.int IntKind.i64 (z - b)] 59) hSt).grown hown2 hgrow2
                obtain ⟨oo2, oc2, rfl⟩ := (holds_of hown2).form
                rw [← chcells_append] at hSt2
                clear hown2 hgrow2 c0
                go_wp2
                go_roundw
                case rel => exact ⟨k + 1, (k : Int) + 1, z + 1, X ++ [⟨a, (k : Int) - a, b, z - b⟩], by omega, ⟨_, _, by rw [List.length_append]; rfl⟩, by go_num, by go_num, by go_num, by omega, by omega, by omega, by omega, by rw [List.length_append]; exact hSt2, by simp; omega, HR⟩
                case measure => simp [intOf]; omega
              · have n6 : b < z := by omega
                go_wp2_with (at_builtin; refine wpList_append_h _ (by kernel_rfl) (.tmp 69) (.tmp 79) 22 59 (.agg #[.int .i64 0, .int .i64 0, .int .i64 0, .int .i64 0]) 4 32 rfl Try.underlying22 infoCh rfl (by decide) (by decide) w.heap.size _ _ _ rfl (hSt.own.alloc _) _ 1 (chcells [⟨a, (k : Int) - a, b, z - b⟩]) rfl (new_holds _ _ _ _ _ (by decide)) rfl (chcells_one _) (by omega) (by simp; omega) ?_)
                intro v2 w2 hown2 hgrow2
                have hSt2 := (st_alloc (Obj.cells #[Value.int IntKind.i64 a, Value.int IntKind.i64 ((k : Int) - a), Value.int IntKind.i64 b, Value.int IntKind.i64 (z - b)] 59) hSt).grown hown2 hgrow2
                obtain ⟨oo2, oc2, rfl⟩ := (holds_of hown2).form
                rw [← chcells_append] at hSt2
                clear hown2 hgrow2 c0
                go_wp2
                go_roundw
                case rel => exact ⟨k + 1, (k : Int) + 1, z + 1, X ++ [⟨a, (k : Int) - a, b, z - b⟩], by omega, ⟨_, _, by rw [List.length_append]; rfl⟩, by go_num, by go_num, by go_num, by omega, by omega, by omega, by omega, by rw [List.length_append]; exact hSt2, by simp; omega, HR⟩
                case measure => simp [intOf]; omega
            · rw [if_neg hcd] at h3
              have HR : Hid ((k + 1 ≤ K.length → Vk (z + 1) m (K.drop (k + 1)) ∧ z + 1 ≤ m ∧ X ++ betw ((k : Int) + 1) (z + 1) (keptR (k + 1 : Nat) (K.drop (k + 1)) ++ [⟨K.length, m, 0⟩]) = L) ∧ (k + 1 = K.length + 1 → X = L)) := ⟨fun _ => ⟨q3, by omega, h3⟩, fun h => by omega⟩
              clear h3 q3
              have n3 : ¬ a < (k : Int) := by omega
              have n4 : ¬ b < z := by omega
              go_wp2
              go_roundw
              case rel => exact ⟨k + 1, (k : Int) + 1, z + 1, X, by omega, ⟨_, _, rfl⟩, by go_num, by go_num, by go_num, by omega, by omega, by omega, by omega, hSt, by omega, HR⟩
              case measure => simp [intOf]; omega
        · by_cases hke : k = K.length
          · have hR' := (hR.out.1 (by omega)).2
            rw [List.drop_of_length_le (by omega), keptR, List.nil_append, betw, betw] at hR'
            dsimp only at hR'
            have HKE : Hid (k = K.length) := hke
            have i2 : ¬ (k : Int) < (K.length : Int) := by omega
            have i3 : (k : Int) ≤ (K.length : Int) := by omega
            have hz2 : decide (m = -1) = false := decide_eq_false (by omega)
            obtain ⟨hbm, h3⟩ := hR'
            rw [← hke] at h3
            clear hR hke
            by_cases hcd : a < (k : Int) ∨ b < m
            · rw [if_pos hcd] at h3
              have HR : Hid ((k + 1 ≤ K.length → Vk (m + 1) m (K.drop (k + 1)) ∧ m + 1 ≤ m ∧ X ++ [⟨a, (k : Int) - a, b, m - b⟩] ++ betw ((k : Int) + 1) (m + 1) (keptR (k + 1 : Nat) (K.drop (k + 1)) ++ [⟨K.length, m, 0⟩]) = L) ∧ (k + 1 = K.length + 1 → X ++ [⟨a, (k : Int) - a, b, m - b⟩] = L)) := ⟨fun h => by have := HKE.out; omega, fun _ => h3⟩
              clear h3
              by_cases hak : a < (k : Int)
              · have n5 : decide (a < (k : Int)) = true := decide_eq_true hak
                go_wp2_with (at_builtin; refine wpList_append_h _ (by kernel_rfl) (.tmp 69) (.tmp 79) 22 59 (.agg #[.int .i64 0, .int .i64 0, .int .i64 0, .int .i64 0]) 4 32 rfl Try.underlying22 infoCh rfl (by decide) (by decide) w.heap.size _ _ _ rfl (hSt.own.alloc _) _ 1 (chcells [⟨a, (k : Int) - a, b, m - b⟩]) rfl (new_holds _ _ _ _ _ (by decide)) rfl (chcells_one _) (by omega) (by simp; omega) ?_)
                intro v2 w2 hown2 hgrow2
                have hSt2 := (st_alloc (Obj.cells #[Value.int IntKind.i64 a, Value.int IntKind.i64 ((k : Int) - a), Value.int IntKind.i64 b, Value.int IntKind.i64 (m - b)] 59) hSt).grown hown2 hgrow2
                obtain ⟨oo2, oc2, rfl⟩ := (holds_of hown2).form
                rw [← chcells_append] at hSt2
                clear hown2 hgrow2
                go_wp2
                go_roundw
                case rel => exact ⟨k + 1, (k : Int) + 1, m + 1, X ++ [⟨a, (k : Int) - a, b, m - b⟩], by omega, ⟨_, _, by rw [List.length_append]; rfl⟩, by go_num, by go_num, by go_num, by omega, by omega, by omega, by omega, by rw [List.length_append]; exact hSt2, by simp; omega, HR⟩
                case measure => simp [intOf]; omega
              · have n6 : b < m := by omega
                go_wp2_with (at_builtin; refine wpList_append_h _ (by kernel_rfl) (.tmp 69) (.tmp 79) 22 59 (.agg #[.int .i64 0, .int .i64 0, .int .i64 0, .int .i64 0]) 4 32 rfl Try.underlying22 infoCh rfl (by decide) (by decide) w.heap.size _ _ _ rfl (hSt.own.alloc _) _ 1 (chcells [⟨a, (k : Int) - a, b, m - b⟩]) rfl (new_holds _ _ _ _ _ (by decide)) rfl (chcells_one _) (by omega) (by simp; omega) ?_)
                intro v2 w2 hown2 hgrow2
                have hSt2 := (st_alloc (Obj.cells #[Value.int IntKind.i64 a, Value.int IntKind.i64 ((k : Int) - a), Value.int IntKind.i64 b, Value.int IntKind.i64 (m - b)] 59) hSt).grown hown2 hgrow2
                obtain ⟨oo2, oc2, rfl⟩ := (holds_of hown2).form
                rw [← chcells_append] at hSt2
                clear hown2 hgrow2
                go_wp2
                go_roundw
                case rel => exact ⟨k + 1, (k : Int) + 1, m + 1, X ++ [⟨a, (k : Int) - a, b, m - b⟩], by omega, ⟨_, _, by rw [List.length_append]; rfl⟩, by go_num, by go_num, by go_num, by omega, by omega, by omega, by omega, by rw [List.length_append]; exact hSt2, by simp; omega, HR⟩
                case measure => simp [intOf]; omega
            · rw [if_neg hcd] at h3
              have HR : Hid ((k + 1 ≤ K.length → Vk (m + 1) m (K.drop (k + 1)) ∧ m + 1 ≤ m ∧ X ++ betw ((k : Int) + 1) (m + 1) (keptR (k + 1 : Nat) (K.drop (k + 1)) ++ [⟨K.length, m, 0⟩]) = L) ∧ (k + 1 = K.length + 1 → X = L)) := ⟨fun h => by have := HKE.out; omega, fun _ => by rw [← h3]; simp⟩
              clear h3
              have n3 : ¬ a < (k : Int) := by omega
              have n4 : ¬ b < m := by omega
              go_wp2
              go_roundw
              case rel => exact ⟨k + 1, (k : Int) + 1, m + 1, X, by omega, ⟨_, _, rfl⟩, by go_num, by go_num, by go_num, by omega, by omega, by omega, by omega, hSt, by omega, HR⟩
              case measure => simp [intOf]; omega
          · obtain rfl : k = K.length + 1 := by omega
            obtain rfl := hR.out.2 rfl
            have i2 : ¬ ((K.length : Int) + 1) ≤ (K.length : Int) := by omega
            go_wp2
            go_ret2
            exact ⟨_, rfl, holds_of hSt.own, hSt.low⟩
end Go.Proofs.Ytppdcjjkkckokaa
