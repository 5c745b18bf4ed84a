/-
  Texts that belong together, joined: EdIC.
-/
import Derived.Test.YtjhanfiohfakoaaGreatDoorPartA5
import Derived.Test.YtjhanfiohfakoaaGreatDoorPartA12
import Derived.Sort.AtCall

/- Invert, Cost, and the law's own helpers Kept and taken, walked. -/
set_option maxRecDepth 20000
namespace Go.Proofs.YtjhanfiohfakoaaGreatDoor
open Go.RowKit

theorem more_any (s z : Int) (w : World) (h0 : 0 ≤ s) (h1 : s ≤ 2147483647) : Calls Tryz.prog 28 #[.int .i64 s, .int .i64 z] w fun e w' => e = .returned (.int .i64 (mo s z)) ∧ w' = w := by
  by_cases hz : z < 0
  · go_enter Tryz.func28, Tryz.ntmps28
    go_wp2
    all_goals go_ret
    all_goals refine ⟨ret_int ?_, rfl⟩
    all_goals unfold mo
    all_goals omega
  by_cases hm : z ≤ 2147483647 - s
  · go_enter Tryz.func28, Tryz.ntmps28
    go_wp2
    all_goals go_ret
    all_goals refine ⟨ret_int ?_, rfl⟩
    all_goals unfold mo
    all_goals omega
  · go_enter Tryz.func28, Tryz.ntmps28
    go_wp2
    all_goals go_ret
    all_goals refine ⟨ret_int ?_, rfl⟩
    all_goals unfold mo
    all_goals omega

set_option maxHeartbeats 1000000 in
theorem Cost_f (l : List Ch) (r : Int) (v : Value) (w : World) (hl : HCh w v l) (hlen : l.length ≤ 1099511627776) (hr : Hid (costF 0 l = r)) :
    Calls Tryz.prog 15 #[v] w fun e w' => e = .returned (.int .i64 r) ∧ Below w.heap.size w w' := by
  obtain ⟨ao, ca, rfl⟩ := Holds.form hl
  go_enter Tryz.func15, Tryz.ntmps15
  go_wp2
  go_loopw [3, 8] (fun sv iv wr => ∃ (k : Nat) (s : Int), k ≤ l.length ∧ sv = .int .i64 s ∧ iv = .int .i64 k ∧ 0 ≤ s ∧ s ≤ 2147483647 ∧ Below w.heap.size w wr ∧ Hid (costF s (l.drop k) = r)) (fun _ iv _ => l.length - (intOf iv).toNat)
  case atStart => exact ⟨0, 0, Nat.zero_le _, rfl, rfl, by omega, by omega, Below.refl _ w, hr⟩
  case round =>
    obtain ⟨k, s, hk, rfl, rfl, h0, h1, hB, hR⟩ := hrel
    have hsz := hB.size
    by_cases hlt : k < l.length
    · obtain ⟨bk, off, rfl, hbk, hc⟩ := HCh.at (HCh.keep hl hB (Nat.le_refl _)) (by omega)
      obtain ⟨c0, c1, c2, c3⟩ := hc k hlt
      have hR' := hR.out
      rw [List.drop_eq_getElem_cons hlt] at hR'
      obtain ⟨c, hcd⟩ : ∃ c, l[k] = c := ⟨_, rfl⟩
      rw [hcd] at hR' c0 c1 c2 c3
      clear hc hcd hR
      have HR : Hid (costF (mo (mo s c.AN) c.BN) (l.drop (k + 1)) = r) := hR'
      clear hR'
      obtain ⟨A, AN, B, BN⟩ := c
      dsimp only at c0 c1 c2 c3 HR
      have i1 : 0 ≤ (k : Int) := by omega
      have i2 : (k : Int) < (l.length : Int) := by omega
      obtain ⟨m0, m1⟩ := mo_range (z := AN) h0 h1
      obtain ⟨n0, n1⟩ := mo_range (z := BN) m0 m1
      go_wp2_with fail
      have hbx := _root_.Go.heap_alloc_new wr (Obj.cells #[Value.int IntKind.i64 A, Value.int IntKind.i64 AN, Value.int IntKind.i64 B, Value.int IntKind.i64 BN] 53)
      have d1 : (wr.alloc (Obj.cells #[Value.int IntKind.i64 A, Value.int IntKind.i64 AN, Value.int IntKind.i64 B, Value.int IntKind.i64 BN] 53)).cell? ⟨wr.heap.size, 1, none⟩ = some (.int .i64 AN) := by rw [Lib.cell_of_heap hbx]; rfl
      have d3 : (wr.alloc (Obj.cells #[Value.int IntKind.i64 A, Value.int IntKind.i64 AN, Value.int IntKind.i64 B, Value.int IntKind.i64 BN] 53)).cell? ⟨wr.heap.size, 3, none⟩ = some (.int .i64 BN) := by rw [Lib.cell_of_heap hbx]; rfl
      clear hbx
      go_region_held3 (fun w' => w'.cell? ⟨wr.heap.size, 1, none⟩ = some (.int .i64 AN) ∧ w'.cell? ⟨wr.heap.size, 3, none⟩ = some (.int .i64 BN)) (go_keep)
        (first | (go_at_call_has 28 (Value.int IntKind.i64 AN); refine (more_any s AN _ h0 h1).mono ?_; rintro e w' ⟨rfl, rfl⟩) | (go_at_call_has 28 (Value.int IntKind.i64 BN); refine (more_any (mo s AN) BN _ m0 m1).mono ?_; rintro e w' ⟨rfl, rfl⟩))
      go_wp2
      go_roundw
      case rel => exact ⟨k + 1, mo (mo s AN) BN, by omega, rfl, by go_num, n0, n1, Below.dN (hB.alloc (by omega) _) 1, HR⟩
      case measure => simp [intOf]; omega
    · go_wp2
      go_ret
      refine ⟨ret_int ?_, hB⟩
      have := hR.out
      rw [List.drop_of_length_le (by omega)] at this
      exact this

/-- what a number of the law's own list says: how far a line lies behind the least one, and one more -/
def q4 (z : Int) : Int := (IntKind.u64.wrap z).tmod 4
theorem q4_range (z : Int) : 0 ≤ q4 z ∧ q4 z ≤ 3 := by
  have h : 0 ≤ IntKind.u64.wrap z := by rw [IntKind.wrap_u64]; omega
  unfold q4
  rw [Int.tmod_eq_emod_of_nonneg h]
  omega
/-- Kept -/
def keptK (m : Int) : Int → List Int → List Int
  | _, [] => []
  | nx, z :: t => if nx + q4 z - 1 < nx ∨ m ≤ nx + q4 z - 1 then -1 :: keptK m nx t else (nx + q4 z - 1) :: keptK m (nx + q4 z - 1 + 1) t
theorem keptK_length (m nx : Int) (l : List Int) : (keptK m nx l).length = l.length := by
  induction l generalizing nx with
  | nil => rfl
  | cons z t ih => rw [keptK]; split <;> simp [ih]
theorem keptK_vk {m nx : Int} {l : List Int} (h0 : 0 ≤ nx) : Vk nx m (keptK m nx l) := by
  induction l generalizing nx with
  | nil => trivial
  | cons z t ih =>
    have := q4_range z
    rw [keptK]
    split
    · exact .inl ⟨rfl, ih h0⟩
    · exact .inr ⟨by omega, by omega, by omega, ih (by omega)⟩

end Go.Proofs.YtjhanfiohfakoaaGreatDoor
