/-
  Join of layer lines and of the reference, walked at any slice of texts: what they return is all members, one behind the other.
-/
import Derived.Test.YtfjcichcmdnheaaLnRefCheck
import Derived.Test.YtfjcichcmdnheaaLnShelfB
import Derived.Lib.AppendStr
namespace Go.Proofs.Ytfjcichcmdnheaa
open Ln Go.RowKit
attribute [local go_sem] ba_at ByteArray.extract_mk

/-- the texts as arrays of bytes -/
def bas (ws : List (List UInt8)) : List ByteArray := ws.map fun a => ⟨a.toArray⟩
theorem bas_length (ws : List (List UInt8)) : (bas ws).length = ws.length := by simp [bas]
theorem bas_data (ws : List (List UInt8)) : (bas ws).map (fun s => s.data.toList) = ws := by simp [bas, Function.comp_def]

theorem join_some (b1 o1 c1 : Nat) (ws : List (List UInt8)) (w : World) (h0 : 0 < ws.length) (hl : ws.length ≤ 1099511627776) (hf : ws.flatten.length ≤ 1099511627776) (hcap : ws.length ≤ c1) (hc1 : ∀ j (h : j < ws.length), w.cell? ⟨b1, o1 + j, none⟩ = some (.string ⟨ws[j].toArray⟩)) :
    Calls Try.prog 24 #[.slice (some ⟨b1, o1, none⟩) ws.length c1, .string ⟨#[]⟩] w fun e w' => e = .returned (.string ⟨ws.flatten.toArray⟩) ∧ Below w.heap.size w w' := by
  have hb1 : b1 < w.heap.size := World.block_lt_of_cell? w _ (hc1 0 h0)
  have hj : (Lib.join ((bas ws).map fun s => s.data.toList) (⟨#[]⟩ : ByteArray).data.toList) = ws.flatten := by rw [bas_data]; exact join_nil_sep ws
  have hJ := Try.strings_Join b1 o1 c1 (bas ws) ⟨#[]⟩ w (by
    intro j y hy
    have hjl : j < ws.length := by have := (List.getElem?_eq_some_iff.1 hy).1; simpa [bas] using this
    rw [hc1 j hjl]
    simp [bas, hjl] at hy
    rw [hy]) hb1 (by rw [bas_length]; omega) (by rw [bas_length]; exact hcap) (by rw [hj]; omega)
  rw [hj, bas_length] at hJ
  exact hJ

set_option maxHeartbeats 1000000 in
theorem Join_any (v : Value) (ws : List (List UInt8)) (w : World) (hl : ws.length ≤ 1099511627776) (hf : ws.flatten.length ≤ 1099511627776) (hc : ∃ ao cap, v = .slice ao ws.length cap ∧ ws.length ≤ cap) (hv : Srow w v ws) :
    Calls Try.prog 12 #[v] w fun e w' => e = .returned (.string ⟨ws.flatten.toArray⟩) ∧ Below w.heap.size w w' := by
  cases hws : ws with
  | nil =>
    subst hws
    obtain ⟨ao, cap, rfl⟩ := srow_nil hv
    go_enter Try.func12, Try.ntmps12
    go_wp2_with fail
    refine (Try.strings_Join_none ao cap ⟨#[]⟩ _).mono ?_
    rintro e w1 ⟨rfl, rfl⟩
    go_wp2
    go_ret
    exact ⟨rfl, Below.refl _ _⟩
  | cons x xs =>
    have hne : ws ≠ [] := by rw [hws]; simp
    have h0 : 0 < ws.length := List.length_pos_iff.2 hne
    rw [← hws]
    clear hws
    rcases hv with ⟨h, _⟩ | ⟨b1, o1, c1, rfl, hc1⟩
    · exact absurd h hne
    obtain ⟨ao, cap, hva, hcap⟩ := hc
    simp only [Value.slice.injEq, true_and] at hva
    obtain ⟨rfl, rfl⟩ := hva
    have HC : Hid (∀ j (h : j < ws.length), w.cell? ⟨b1, o1 + j, none⟩ = some (.string ⟨ws[j].toArray⟩)) := hc1
    have HF : Hid (ws.flatten.length ≤ 1099511627776) := hf
    clear hc1 hf
    go_enter Try.func12, Try.ntmps12
    go_wp2_with fail
    refine (join_some b1 o1 c1 ws _ h0 hl HF.out hcap HC.out).mono ?_
    rintro e w1 ⟨rfl, hb⟩
    go_wp2
    go_ret
    exact ⟨rfl, hb⟩

theorem infoU8 : (Try.prog.info? 5).map (fun i => (i.zero, i.size, i.bytes)) = some (some (.int .u8 0), 1, 1) := by kernel_rfl

theorem flatten_take_le (ws : List (List UInt8)) (k : Nat) : (ws.take k).flatten.length ≤ ws.flatten.length := by
  conv => rhs; rw [← List.take_append_drop k ws, List.flatten_append, List.length_append]
  omega

set_option maxHeartbeats 1000000 in
theorem refJoin_any (v : Value) (ws : List (List UInt8)) (w : World) (hl : ws.length ≤ 1099511627776) (hf : ws.flatten.length ≤ 1099511627776) (hv : Srow w v ws) :
    Calls Try.prog 13 #[v] w fun e w' => e = .returned (.string ⟨ws.flatten.toArray⟩) ∧ Below w.heap.size w w' := by
  obtain ⟨i0, hi, hz0, hz1, hz2⟩ := info_parts infoU8
  cases hws : ws with
  | nil =>
    subst hws
    obtain ⟨ao, cap, rfl⟩ := srow_nil hv
    have hcs := conv_string (P := Try.prog) w 39 9 5 w.heap.size (.slice none 0 0) [] Try.underlying39 Try.underlying5 Try.underlying9 (World.ownsRowF_nil _ _ _ _)
    go_enter Try.func13, Try.ntmps13
    go_wp2
    refine wp_loop_rounds 1 ?_
    rw [rounds_succ]
    go_wp2
    go_ret
    exact ⟨rfl, Below.refl _ _⟩
  | cons x xs =>
    have hne : ws ≠ [] := by rw [hws]; simp
    have h0 : 0 < ws.length := List.length_pos_iff.2 hne
    rw [← hws]
    clear hws
    rcases hv with ⟨h, _⟩ | ⟨b1, o1, c1, rfl, hc1⟩
    · exact absurd h hne
    have hb1 : b1 < w.heap.size := World.block_lt_of_cell? w _ (hc1 0 h0)
    have HC : Hid (∀ j (h : j < ws.length), w.cell? ⟨b1, o1 + j, none⟩ = some (.string ⟨ws[j].toArray⟩)) := hc1
    clear hc1
    go_enter Try.func13, Try.ntmps13
    go_wp2
    go_loopw [3, 4] (fun b i wr => ∃ k : Nat, k ≤ ws.length ∧ i = .int .i64 k ∧ wr.ownsRow w.heap.size 5 1 b (ws.take k).flatten.length (Lib.byteCells (ws.take k).flatten) ∧ Below w.heap.size w wr) (fun _ i _ => ws.length - (intOf i).toNat)
    case atStart => exact ⟨0, Nat.zero_le _, rfl, World.ownsRow_nil _ _ _ _, Below.refl _ _⟩
    case round =>
      obtain ⟨k, hk, rfl, hown, hbr⟩ := hrel
      have hbz := hbr.size
      by_cases hlt : k < ws.length
      · have d1 : wr.cell? ⟨b1, o1 + k, none⟩ = some (.string ⟨ws[k].toArray⟩) := (hbr.cell hb1).trans (HC.out k hlt)
        have i1 : 0 ≤ (k : Int) := by omega
        have i2 : (k : Int) < (ws.length : Int) := by omega
        have hnx : (ws.take (k + 1)).flatten = (ws.take k).flatten ++ ws[k] := by
          rw [List.take_succ_eq_append_getElem hlt, List.flatten_append]; simp
        have hfl := flatten_take_le ws (k + 1)
        rw [hnx, List.length_append] at hfl
        have HN : Hid ((ws.take (k + 1)).flatten = (ws.take k).flatten ++ ws[k]) := hnx
        clear hnx
        generalize hx : ws[k] = x at *
        generalize (ws.take k).flatten = acc at *
        have hxs : (⟨x.toArray⟩ : ByteArray).size = x.length := rfl
        go_wp2_with (at_builtin; refine Lib.wpList_append_own_string _ rfl _ _ 39 9 rfl w.heap.size 5 i0 Try.underlying39 Try.underlying9 hi hz0 hz1 hz2 _ _ _ rfl hown ⟨x.toArray⟩ rfl ?c3 ?c4 ?c5 ?_)
        case c3 => rw [hxs]; unfold maxLen; omega
        case c4 => rw [hxs]; omega
        case c5 => omega
        intro v' w3 hown3 hgrow hfr
        have hbr3 := hbr.grown hgrow (by omega) (fun j hj => (hown.lt j hj).1)
        go_wp2
        go_roundw
        case rel => exact ⟨k + 1, by omega, by go_num, by rw [HN.out, Lib.byteCells_append, List.length_append]; exact hown3, hbr3⟩
        case measure => simp [intOf]; omega
      · have hcs := conv_string (P := Try.prog) wr 39 9 5 w.heap.size u3 (ws.take k).flatten Try.underlying39 Try.underlying5 Try.underlying9 (World.ownsRowF_of hown)
        have HE : Hid ((ws.take k).flatten = ws.flatten) := by show _ = _; rw [List.take_of_length_le (by omega)]
        generalize (ws.take k).flatten = acc at *
        go_wp2
        go_ret
        rw [← HE.out]
        exact ⟨rfl, hbr⟩
end Go.Proofs.Ytfjcichcmdnheaa
