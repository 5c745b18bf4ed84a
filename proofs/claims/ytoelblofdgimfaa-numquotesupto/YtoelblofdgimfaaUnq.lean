/-
  num.Unquote, walked: what it returns is what the plain function unquote says.
-/
import Derived.Test.YtoelblofdgimfaaQByte
namespace Go.Proofs.Ytoelblofdgimfaa
open Q Go.RowKit
attribute [local go_sem] ba_at ByteArray.extract_mk

def sizeS : Value → Nat
  | .string s => s.data.size
  | _ => 0

theorem ret_uq {l a b : List UInt8} {n : Int} (h : uqa l = a ∧ uqb l = b ∧ uqe l = n) : Ending.returned (.tuple #[.string ⟨a.toArray⟩, .string ⟨b.toArray⟩, .int .i64 n]) = .returned (.tuple #[.string ⟨(uqa l).toArray⟩, .string ⟨(uqb l).toArray⟩, .int .i64 (uqe l)]) := by
  rw [h.1, h.2.1, h.2.2]

set_option maxHeartbeats 2000000 in
set_option maxRecDepth 100000 in
theorem Unquote_body (l : List UInt8) (w : World) (hl : l.length ≤ 1099511627776) :
    Calls Try.prog 4 #[.string ⟨((34 : UInt8) :: l).toArray⟩] w fun e w' => e = .returned (.tuple #[.string ⟨(uqa (34 :: l)).toArray⟩, .string ⟨(uqb (34 :: l)).toArray⟩, .int .i64 (uqe (34 :: l))]) ∧ Below w.heap.size w w' := by
  have HU : Hid (unquote (34 :: l) = body l) := by show unquote (34 :: l) = body l; simp [unquote]
  go_enter Try.func4, Try.ntmps4
  go_wp2
  go_loopw [6] (fun rest wr => ∃ (r acc : List UInt8) (v : Value), rest = .string ⟨r.toArray⟩ ∧ Bld 30 5 w.heap.size w.heap.size v (Lib.byteCells acc) wr ∧ Below w.heap.size w wr ∧ body l = (body r).map (fun p => (acc ++ p.1, p.2)) ∧ acc.length + r.length ≤ l.length) (fun rest _ => sizeS rest)
  case atStart => exact ⟨l, [], _, rfl, Bld.fresh 30 5 w, (Below.refl _ w).alloc (Nat.le_refl _) _, by simp, by simp⟩
  case round =>
    obtain ⟨r, acc, v, rfl, hB, hbr, hbody, hal⟩ := hrel
    have HB : Hid (body l = (body r).map (fun p => (acc ++ p.1, p.2))) := hbody
    clear hbody
    match r, hal, HB with
    | [], hal, HB =>
      go_wp2
      go_ret3
      exact ⟨ret_uq (uq_none (by rw [HU.out, HB.out]; rfl)), hbr⟩
    | c :: t, hal, HB =>
      have hc := c.toNat_lt
      by_cases h34 : c.toNat = 34
      · have hb : ((c.toNat : Int) != 34) = false := by simp; omega
        have HE : Hid (unquote (34 :: l) = some (acc, t)) := by
          show unquote (34 :: l) = some (acc, t)
          rw [HU.out, HB.out, body_end t h34]; simp
        clear h34
        have hI : Lib.IsBuilderF 30 5 w.heap.size w.heap.size (Lib.byteCells acc) wr.drew := hB.isF
        have hsz : w.heap.size ≤ wr.drew.heap.size := hbr.size
        go_wp2_with fail
        go_region_with (go_at_call 10; refine (Try.Builder_String_any_k w.heap.size w.heap.size acc _ hI hsz).mono ?_; rintro e w4 ⟨rfl, _, hb4, _⟩)
        all_goals
          go_wp2
          go_ret3
          exact ⟨ret_uq (uq_some HE.out), hbr.drew.trans hb4⟩
      · have hb : ((c.toNat : Int) != 34) = true := by simp; omega
        cases hpl : plainI c.toNat
        · by_cases h92 : c.toNat = 92 ∧ 2 ≤ t.length
          · match t, hal, HB, h92 with
            | a :: b :: t, hal, HB, ⟨h92, _⟩ =>
              obtain rfl : c = 92 := UInt8.toNat_inj.1 h92
              cases hk : pairOk a b
              · have HE : Hid (unquote (34 :: l) = none) := by
                  show unquote (34 :: l) = none
                  rw [HU.out, HB.out, body_pair_no t h92 hk]; rfl
                have h1 : pv a b = 0 := (pv_no hk).symm
                have h2 : pn a b = 0 := (pn_no hk).symm
                go_wp2_with fail
                refine (quotedByte_two a b t _).mono ?_
                rintro e w4 ⟨rfl, nq, rfl⟩
                go_wp2
                go_ret3
                exact ⟨ret_uq (uq_none HE.out), below_drewN hbr nq⟩
              · have HE : Hid (body l = (body t).map (fun p => (acc ++ [UInt8.ofNat (pairI a b).toNat] ++ p.1, p.2))) := by
                  show body l = _
                  rw [HB.out, body_pair t h92 hk]; simp [Function.comp_def]
                have h2 : pn a b = 3 := (pn_yes hk).symm
                have hpb := pairI_byte hk
                have HV : Hid (pv a b = ((UInt8.ofNat (pairI a b).toNat).toNat : Int)) := by
                  show pv a b = _
                  rw [← pv_yes hk]
                  simp only [UInt8.toNat_ofNat']
                  omega
                clear hpb
                go_wp2_with fail
                refine (quotedByte_two a b t _).mono ?_
                rintro e w4 ⟨rfl, nq, rfl⟩
                go_wp2_with fail
                rw [HV.out]
                refine (WriteByte_any w.heap.size w.heap.size v _ _ _ (Bld.drewN hB nq) (by rw [Lib.byteCells_length]; omega) hbr.size).mono ?_
                rintro e w5 ⟨rfl, v5, hB5, _, _, hb5⟩
                go_wp2
                go_roundw
                case rel => exact ⟨t, acc ++ [UInt8.ofNat (pairI a b).toNat], v5, rfl, by rw [byteCells_snoc]; exact hB5, (below_drewN hbr nq).trans hb5, HE.out, by simp at hal ⊢; omega⟩
                case measure => first | (simp [sizeS]; done) | (simp [sizeS]; omega)
          · have HE : Hid (unquote (34 :: l) = none) := by
              show unquote (34 :: l) = none
              rw [HU.out, HB.out, body_none t h34 hpl h92]; rfl
            go_wp2_with fail
            refine (quotedByte_none c t _ hpl h92).mono ?_
            rintro e w4 ⟨rfl, nq, rfl⟩
            go_wp2
            go_ret3
            exact ⟨ret_uq (uq_none HE.out), below_drewN hbr nq⟩
        · have HE : Hid (body l = (body t).map (fun p => (acc ++ [c] ++ p.1, p.2))) := by
            show body l = _
            rw [HB.out, body_plain t hpl]; simp [Function.comp_def]
          go_wp2_with fail
          refine (quotedByte_plain c t _ hpl).mono ?_
          rintro e w4 ⟨rfl, nq, rfl⟩
          go_wp2_with fail
          refine (WriteByte_any w.heap.size w.heap.size v _ _ _ (Bld.drewN hB nq) (by rw [Lib.byteCells_length]; simp at hal; omega) hbr.size).mono ?_
          rintro e w5 ⟨rfl, v5, hB5, _, _, hb5⟩
          go_wp2
          go_roundw
          case rel => exact ⟨t, acc ++ [c], v5, rfl, by rw [byteCells_snoc]; exact hB5, (below_drewN hbr nq).trans hb5, HE.out, by simp at hal ⊢; omega⟩
          case measure => first | (simp [sizeS]; done) | (simp [sizeS]; omega)

set_option maxHeartbeats 1000000 in
theorem Unquote_any (l : List UInt8) (w : World) (hl : l.length ≤ 1099511627776) :
    Calls Try.prog 4 #[.string ⟨l.toArray⟩] w fun e w' => e = .returned (.tuple #[.string ⟨(uqa l).toArray⟩, .string ⟨(uqb l).toArray⟩, .int .i64 (uqe l)]) ∧ Below w.heap.size w w' := by
  match l, hl with
  | [], _ =>
    go_enter Try.func4, Try.ntmps4
    go_wp2
    go_ret3
    exact ⟨ret_uq (uq_none rfl), Below.refl _ _⟩
  | c :: t, hl =>
    by_cases h : c.toNat = 34
    · obtain rfl : c = 34 := UInt8.toNat_inj.1 h
      exact Unquote_body t w (by simp at hl; omega)
    · have hb : ((c.toNat : Int) != 34) = true := by simp; omega
      have HU : Hid (unquote (c :: t) = none) := by show unquote (c :: t) = none; simp [unquote, h]
      clear h
      go_enter Try.func4, Try.ntmps4
      go_wp2
      go_ret3
      exact ⟨ret_uq (uq_none HU.out), Below.refl _ _⟩
end Go.Proofs.Ytoelblofdgimfaa
