/-
  num.Quote, walked: what it returns is the plain function 'quote' of the text.
-/
import Derived.Test.YtoelblofdgimfaaLeaf
import Derived.Test.YtoelblofdgimfaaShelf
namespace Go.Proofs.Ytoelblofdgimfaa
open Q Go.RowKit

set_option maxHeartbeats 2000000 in
set_option maxRecDepth 100000 in
theorem Quote_any (l : List UInt8) (w : World) (hl : l.length ≤ 1099511627776) :
    Calls Try.prog 6 #[.string ⟨l.toArray⟩] w fun e w' => e = .returned (.string ⟨(quote l).toArray⟩) ∧ Below w.heap.size w w' := by
  go_enter Try.func6, Try.ntmps6
  go_wp2_with fail
  refine (WriteByte_any w.heap.size w.heap.size (.slice none 0 0) [] 34 _ (Bld.fresh 30 5 w) (by simp) (by simp)).mono ?_
  rintro e w1 ⟨rfl, v1, hB1, ha1, hf1, hb1⟩
  obtain ⟨cap, C, fz, w2, hcv, hR, hC, hb2, hlt2⟩ := conv_bytes (P := Try.prog) w1 9 28 5 l Try.underlying9 Try.underlying28 Try.underlying5
  have hB2 := hB1.kept (below_all hb2)
  have hRb : Beside w1.heap.size (.cells C 5 fz) w.heap.size v1 w2 := ⟨hR, by have := hB1.lt; omega, by
    intro e
    have := (hB1.2.2.1.lt _ e).2
    omega⟩
  have hbw : Below w.heap.size w w2 := (((Below.refl _ w).alloc (Nat.le_refl _) _).trans hb1).trans (hb2.mono (by have := hb1.size; simp at this; omega))
  generalize hRR : w1.heap.size = R at *
  have HR : Hid (w1.heap.size = R) := hRR
  clear hRR
  go_wp2
  go_loopw [10] (fun i wr => ∃ (k : Nat) (acc : List UInt8) (v : Value), k ≤ l.length ∧ i = .int .i64 k ∧ Bld 30 5 w.heap.size w.heap.size v (Lib.byteCells acc) wr ∧ Beside R (.cells C 5 fz) w.heap.size v wr ∧ Below w.heap.size w wr ∧ acc ++ qbody (l.drop k) = [34] ++ qbody l ∧ acc.length ≤ 3 * k + 1) (fun i _ => l.length - (intOf i).toNat)
  case atStart => exact ⟨0, [34], v1, Nat.zero_le _, rfl, hB2, hRb, hbw, rfl, by simp⟩
  case round =>
    obtain ⟨k, acc, v, hk, rfl, hB, hR', hbr, hacc, hal⟩ := hrel
    by_cases hlt : k < l.length
    · have hc := (hR'.cell k).trans (hC k hlt)
      have hdk : l.drop k = l[k] :: l.drop (k + 1) := List.drop_eq_getElem_cons hlt
      have HD : Hid (acc ++ (q1 l[k] ++ qbody (l.drop (k + 1))) = [34] ++ qbody l) := by
        rw [hdk] at hacc
        exact hacc
      clear hacc hdk
      generalize l[k] = x at *
      have hx : x.toNat < 256 := x.toNat_lt
      go_wp2_with fail
      refine (isPlain_any _ _).mono ?_
      rintro e w' ⟨rfl, rfl⟩
      cases hpl : plainI x.toNat
      · have HP : Hid (q1 x = [92, hexc (x.toNat / 16), hexc (x.toNat % 16)]) := by
          show q1 x = _
          simp [q1, hpl]
        go_wp2_with fail
        refine (WriteByte_any w.heap.size w.heap.size v _ 92 _ hB (by rw [Lib.byteCells_length]; omega) (by have := hbr.size; omega)).mono ?_
        rintro e w3 ⟨rfl, v3, hB3, ha3, hf3, hb3⟩
        go_wp2_with fail
        rw [hex_at]
        refine (WriteByte_any w.heap.size w.heap.size v3 _ _ _ hB3 (by simp [Lib.byteCells_length]; omega) (by have := hbr.size; have := hb3.size; omega)).mono ?_
        rintro e w4 ⟨rfl, v4, hB4, ha4, hf4, hb4⟩
        go_wp2_with fail
        rw [hex_at]
        refine (WriteByte_any w.heap.size w.heap.size v4 _ _ _ hB4 (by simp [Lib.byteCells_length]; omega) (by have := hbr.size; have := hb3.size; have := hb4.size; omega)).mono ?_
        rintro e w5 ⟨rfl, v5, hB5, ha5, hf5, hb5⟩
        go_wp2
        go_roundw
        case rel =>
          refine ⟨k + 1, acc ++ [92, hexc (x.toNat / 16), hexc (x.toNat % 16)], v5, by omega, by go_num, ?_, ((hR'.step ha3 hf3).step ha4 hf4).step ha5 hf5, ((hbr.trans hb3).trans hb4).trans hb5, by rw [← HD.out, HP.out]; simp, by simp; omega⟩
          have e : Lib.byteCells (acc ++ [92, hexc (x.toNat / 16), hexc (x.toNat % 16)]) = Lib.byteCells acc ++ [.int .u8 92] ++ [.int .u8 (hexc (x.toNat / 16)).toNat] ++ [.int .u8 (hexc (x.toNat % 16)).toNat] := by
            rw [Lib.byteCells_append]; simp [Lib.byteCells]
          rw [e]
          exact hB5
        case measure => simp [intOf]; omega
      · have HP : Hid (q1 x = [x]) := by
          show q1 x = _
          simp [q1, hpl]
        go_wp2_with fail
        refine (WriteByte_any w.heap.size w.heap.size v _ _ _ hB (by rw [Lib.byteCells_length]; omega) (by have := hbr.size; omega)).mono ?_
        rintro e w3 ⟨rfl, v3, hB3, ha3, hf3, hb3⟩
        go_wp2
        go_roundw
        case rel => exact ⟨k + 1, acc ++ [x], v3, by omega, by go_num, by rw [Lib.byteCells_append]; exact hB3, hR'.step ha3 hf3, hbr.trans hb3, by rw [← HD.out, HP.out]; simp, by simp; omega⟩
        case measure => simp [intOf]; omega
    · have HD : Hid (acc = [34] ++ qbody l) := by
        have e : l.drop k = [] := List.drop_eq_nil_of_le (by omega)
        rw [e] at hacc
        show acc = _
        simpa [qbody] using hacc
      clear hacc
      go_wp2_with fail
      refine (WriteByte_any w.heap.size w.heap.size v _ 34 _ hB (by rw [Lib.byteCells_length]; omega) (by have := hbr.size; omega)).mono ?_
      rintro e w3 ⟨rfl, v3, hB3, ha3, hf3, hb3⟩
      go_wp2_with fail
      have hB4 : Bld 30 5 w.heap.size w.heap.size v3 (Lib.byteCells (acc ++ [34])) w3 := by rw [Lib.byteCells_append]; exact hB3
      refine (Try.Builder_String_any_k w.heap.size w.heap.size _ _ hB4.isF (by have := hbr.size; have := hb3.size; omega)).mono ?_
      rintro e w4 ⟨rfl, _, hb4, _⟩
      go_wp2
      go_ret
      rw [HD.out]
      exact ⟨rfl, (hbr.trans hb3).trans hb4⟩
end Go.Proofs.Ytoelblofdgimfaa
