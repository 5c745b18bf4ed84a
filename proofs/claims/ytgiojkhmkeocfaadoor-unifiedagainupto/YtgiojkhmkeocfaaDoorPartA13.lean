/-
  Texts that belong together, joined: CqB, CqU, CpA, CpB, CpC, CpD, CpE, CwA, CwB, CwE, CwF, CpF, CpG, CpH, CpI.
-/
import Derived.Test.YtgiojkhmkeocfaaDoorPartA12
import Derived.Test.YtgiojkhmkeocfaaDoorPartA8
import Derived.Deep.QuietTactic
import Derived.Test.YtgiojkhmkeocfaaDoorPartA10
import Derived.Test.YtgiojkhmkeocfaaDoorPartA9
import Derived.WalkLawsBesides
import Derived.Deep.DeepCutAuto
import Derived.Deep.CutBlock
import Derived.Test.YtgiojkhmkeocfaaDoorPartA6
import Derived.Test.YtgiojkhmkeocfaaDoorPartA1
import Derived.Lib.FrozenHead2
import Derived.Test.YtgiojkhmkeocfaaDoorProg
import Derived.Shelf.Strings.Builder1
import Derived.WalkKit
import Derived.WalkSpells
import Derived.BigQuiet
import Derived.Laws.StructEq

/- num.quotedByte, walked. -/
namespace Go.Proofs.YtgiojkhmkeocfaaDoor
open Q Go.RowKit Go.Proofs.YtgiojkhmkeocfaaDoor
attribute [local go_sem] ba_at hexl_at


theorem idx_hex (x : UInt8) : Lib.indexByte [48, 49, 50, 51, 52, 53, 54, 55, 56, 57, 97, 98, 99, 100, 101, 102] x = digitI x.toNat := by
  have key : ∀ i : Fin 256, Lib.indexByte [48, 49, 50, 51, 52, 53, 54, 55, 56, 57, 97, 98, 99, 100, 101, 102] (UInt8.ofNat i.val) = digitI (i.val : Int) := by decide +kernel
  have := key ⟨x.toNat, x.toNat_lt⟩
  simpa using this

theorem IndexByte_hex (x : UInt8) (w : World) :
    Calls Tryd.prog 184 #[.string ⟨#[48, 49, 50, 51, 52, 53, 54, 55, 56, 57, 97, 98, 99, 100, 101, 102]⟩, .int .u8 (x.toNat : Int)] w fun e w' => e = .returned (.int .i64 (digitI x.toNat)) ∧ w' = w := by
  have h := Tryd.strings_IndexByte ⟨#[48, 49, 50, 51, 52, 53, 54, 55, 56, 57, 97, 98, 99, 100, 101, 102]⟩ (x.toNat : Int) w
  refine h.mono ?_
  rintro e w' ⟨rfl, rfl⟩
  have e : ((x.toNat : Int).toNat).toUInt8 = x := by simp
  rw [e, ← idx_hex]
  exact ⟨rfl, rfl⟩

theorem or_nib (x y : Int) (h0 : 0 ≤ x) (h1 : x ≤ 15) (h2 : 0 ≤ y) (h3 : y ≤ 15) : bits BinOp.or IntKind.i64 (x * 16) y % 256 = 16 * x + y := by
  have key : ∀ i j : Fin 16, bits BinOp.or IntKind.i64 ((i.val : Int) * 16) (j.val : Int) % 256 = 16 * (i.val : Int) + (j.val : Int) := by decide +kernel
  have := key ⟨x.toNat, by omega⟩ ⟨y.toNat, by omega⟩
  simp only [Int.toNat_of_nonneg h0, Int.toNat_of_nonneg h2] at this
  exact this

set_option maxHeartbeats 1000000 in
theorem quotedByte_two (a b : UInt8) (t : List UInt8) (w : World) :
    Calls Tryd.prog 188 #[.string ⟨((92 : UInt8) :: a :: b :: t).toArray⟩] w fun e w' => e = .returned (.tuple #[.int .u8 (pv a b), .int .i64 (pn a b)]) ∧ ∃ n, w' = w.drewN n := by
  have hp : plainI 92 = false := by decide
  obtain ⟨ha, ha'⟩ := digitI_ge a.toNat
  obtain ⟨hb, hb'⟩ := digitI_ge b.toNat
  go_enter Tryd.func188, Tryd.ntmps188
  go_wp2_with fail
  refine (isPlain_any _ _).mono ?_
  rintro e w' ⟨rfl, rfl⟩
  go_wp2_with fail
  go_quiet ((go_at_call 184; exact Calls.quiet_of_same (IndexByte_hex _ _)))
  by_cases h1 : digitI a.toNat < 0
  · go_wp2
    go_ret2
    exact ⟨ret_two (pv_no (pairOk_lo h1)) (pn_no (pairOk_lo h1)), _, rfl⟩
  · by_cases h2 : digitI b.toNat < 0
    · go_wp2
      go_ret2
      exact ⟨ret_two (pv_no (pairOk_hi h2)) (pn_no (pairOk_hi h2)), _, rfl⟩
    · go_wp2_with fail
      rw [or_nib _ _ (by omega) ha' (by omega) hb']
      refine (isPlain_any _ _).mono ?_
      rintro e w' ⟨rfl, rfl⟩
      have hm := pairOk_mid (a := a) (b := b) (by omega) (by omega)
      have HM : Hid (pairOk a b = !plainI (16 * digitI a.toNat + digitI b.toNat)) := hm
      clear hm
      cases hpl : plainI (16 * digitI a.toNat + digitI b.toNat)
      · go_wp2
        go_ret2
        have hk : pairOk a b = true := by rw [HM.out, hpl]; rfl
        exact ⟨ret_two (pv_yes hk) (pn_yes hk), _, rfl⟩
      · go_wp2
        go_ret2
        have hk : pairOk a b = false := by rw [HM.out, hpl]; rfl
        exact ⟨ret_two (pv_no hk) (pn_no hk), _, rfl⟩

set_option maxHeartbeats 1000000 in
theorem quotedByte_plain (c : UInt8) (t : List UInt8) (w : World) (h : plainI c.toNat = true) :
    Calls Tryd.prog 188 #[.string ⟨(c :: t).toArray⟩] w fun e w' => e = .returned (.tuple #[.int .u8 (c.toNat : Int), .int .i64 1]) ∧ ∃ n, w' = w.drewN n := by
  go_enter Tryd.func188, Tryd.ntmps188
  go_wp2_with fail
  refine (isPlain_any _ _).mono ?_
  rintro e w' ⟨rfl, rfl⟩
  go_wp2
  go_ret2
  exact ⟨rfl, 0, rfl⟩

set_option maxHeartbeats 1000000 in
theorem quotedByte_none (c : UInt8) (t : List UInt8) (w : World) (h : plainI c.toNat = false) (h2 : ¬ (c.toNat = 92 ∧ 2 ≤ t.length)) :
    Calls Tryd.prog 188 #[.string ⟨(c :: t).toArray⟩] w fun e w' => e = .returned (.tuple #[.int .u8 0, .int .i64 0]) ∧ ∃ n, w' = w.drewN n := by
  by_cases h3 : c.toNat = 92
  · have hb : ((c.toNat : Int) != 92) = false := by simp; omega
    have hl : ((t.length : Int) + 1 < 3) := by omega
    clear h2
    go_enter Tryd.func188, Tryd.ntmps188
    go_wp2_with fail
    refine (isPlain_any _ _).mono ?_
    rintro e w' ⟨rfl, rfl⟩
    go_wp2
    go_ret2
    exact ⟨rfl, 0, rfl⟩
  · have hb : ((c.toNat : Int) != 92) = true := by simp; omega
    clear h2
    go_enter Tryd.func188, Tryd.ntmps188
    go_wp2_with fail
    refine (isPlain_any _ _).mono ?_
    rintro e w' ⟨rfl, rfl⟩
    go_wp2
    go_ret2
    exact ⟨rfl, 0, rfl⟩
end Go.Proofs.YtgiojkhmkeocfaaDoor

/- num.Unquote, walked: what it returns is what the plain function unquote says. -/
namespace Go.Proofs.YtgiojkhmkeocfaaDoor
open Q Go.RowKit Go.Proofs.YtgiojkhmkeocfaaDoor
attribute [local go_sem] ba_at ByteArray.extract_mk

def sizeS : Value → Nat
  | .string s => s.data.size
  | _ => 0

theorem ret_uq {l a b : List UInt8} {n : Int} (h : uqa l = a ∧ uqb l = b ∧ uqe l = n) : Ending.returned (.tuple #[.string ⟨a.toArray⟩, .string ⟨b.toArray⟩, .int .i64 n]) = .returned (.tuple #[.string ⟨(uqa l).toArray⟩, .string ⟨(uqb l).toArray⟩, .int .i64 (uqe l)]) := by
  rw [h.1, h.2.1, h.2.2]

set_option maxHeartbeats 2000000 in
set_option maxRecDepth 100000 in
theorem Unquote_body (l : List UInt8) (w : World) (hl : l.length ≤ 1099511627776) :
    Calls Tryd.prog 178 #[.string ⟨((34 : UInt8) :: l).toArray⟩] w fun e w' => e = .returned (.tuple #[.string ⟨(uqa (34 :: l)).toArray⟩, .string ⟨(uqb (34 :: l)).toArray⟩, .int .i64 (uqe (34 :: l))]) ∧ Below w.heap.size w w' := by
  have HU : Hid (unquote (34 :: l) = body l) := by show unquote (34 :: l) = body l; simp [unquote]
  go_enter Tryd.func178, Tryd.ntmps178
  go_wp2
  go_loopw [6] (fun rest wr => ∃ (r acc : List UInt8) (v : Value), rest = .string ⟨r.toArray⟩ ∧ Bld 61 5 w.heap.size w.heap.size v (Lib.byteCells acc) wr ∧ Below w.heap.size w wr ∧ body l = (body r).map (fun p => (acc ++ p.1, p.2)) ∧ acc.length + r.length ≤ l.length) (fun rest _ => sizeS rest)
  case atStart => exact ⟨l, [], _, rfl, Bld.fresh 61 5 w, (Below.refl _ w).alloc (Nat.le_refl _) _, by simp, by simp⟩
  case round =>
    obtain ⟨r, acc, v, rfl, hB, hbr, hbody, hal⟩ := hrel
    have HB : Hid (body l = (body r).map (fun p => (acc ++ p.1, p.2))) := hbody
    clear hbody
    match r, hal, HB with
    | [], hal, HB =>
      go_wp2
      go_ret3
      exact ⟨ret_uq (uq_none (by rw [HU.out, HB.out]; rfl)), hbr⟩
    | c :: t, hal, HB =>
      have hc := c.toNat_lt
      by_cases h34 : c.toNat = 34
      · have hb : ((c.toNat : Int) != 34) = false := by simp; omega
        have HE : Hid (unquote (34 :: l) = some (acc, t)) := by
          show unquote (34 :: l) = some (acc, t)
          rw [HU.out, HB.out, body_end t h34]; simp
        clear h34
        have hI : Lib.IsBuilderF 61 5 w.heap.size w.heap.size (Lib.byteCells acc) wr.drew := hB.isF
        have hsz : w.heap.size ≤ wr.drew.heap.size := hbr.size
        go_wp2_with fail
        go_region_with (go_at_call 35; refine (Tryd.Builder_String_any_k w.heap.size w.heap.size acc _ hI hsz).mono ?_; rintro e w4 ⟨rfl, _, hb4, _⟩)
        all_goals
          go_wp2
          go_ret3
          exact ⟨ret_uq (uq_some HE.out), hbr.drew.trans hb4⟩
      · have hb : ((c.toNat : Int) != 34) = true := by simp; omega
        cases hpl : plainI c.toNat
        · by_cases h92 : c.toNat = 92 ∧ 2 ≤ t.length
          · match t, hal, HB, h92 with
            | a :: b :: t, hal, HB, ⟨h92, _⟩ =>
              obtain rfl : c = 92 := UInt8.toNat_inj.1 h92
              cases hk : pairOk a b
              · have HE : Hid (unquote (34 :: l) = none) := by
                  show unquote (34 :: l) = none
                  rw [HU.out, HB.out, body_pair_no t h92 hk]; rfl
                have h1 : pv a b = 0 := (pv_no hk).symm
                have h2 : pn a b = 0 := (pn_no hk).symm
                go_wp2_with fail
                refine (quotedByte_two a b t _).mono ?_
                rintro e w4 ⟨rfl, nq, rfl⟩
                go_wp2
                go_ret3
                exact ⟨ret_uq (uq_none HE.out), below_drewN hbr nq⟩
              · have HE : Hid (body l = (body t).map (fun p => (acc ++ [UInt8.ofNat (pairI a b).toNat] ++ p.1, p.2))) := by
                  show body l = _
                  rw [HB.out, body_pair t h92 hk]; simp [Function.comp_def]
                have h2 : pn a b = 3 := (pn_yes hk).symm
                have hpb := pairI_byte hk
                have HV : Hid (pv a b = ((UInt8.ofNat (pairI a b).toNat).toNat : Int)) := by
                  show pv a b = _
                  rw [← pv_yes hk]
                  simp only [UInt8.toNat_ofNat']
                  omega
                clear hpb
                go_wp2_with fail
                refine (quotedByte_two a b t _).mono ?_
                rintro e w4 ⟨rfl, nq, rfl⟩
                go_wp2_with fail
                rw [HV.out]
                refine (WriteByte_any w.heap.size w.heap.size v _ _ _ (Bld.drewN hB nq) (by rw [Lib.byteCells_length]; omega) hbr.size).mono ?_
                rintro e w5 ⟨rfl, v5, hB5, _, _, hb5⟩
                go_wp2
                go_roundw
                case rel => exact ⟨t, acc ++ [UInt8.ofNat (pairI a b).toNat], v5, rfl, by rw [byteCells_snoc]; exact hB5, (below_drewN hbr nq).trans hb5, HE.out, by simp at hal ⊢; omega⟩
                case measure => first | (simp [sizeS]; done) | (simp [sizeS]; omega)
          · have HE : Hid (unquote (34 :: l) = none) := by
              show unquote (34 :: l) = none
              rw [HU.out, HB.out, body_none t h34 hpl h92]; rfl
            go_wp2_with fail
            refine (quotedByte_none c t _ hpl h92).mono ?_
            rintro e w4 ⟨rfl, nq, rfl⟩
            go_wp2
            go_ret3
            exact ⟨ret_uq (uq_none HE.out), below_drewN hbr nq⟩
        · have HE : Hid (body l = (body t).map (fun p => (acc ++ [c] ++ p.1, p.2))) := by
            show body l = _
            rw [HB.out, body_plain t hpl]; simp [Function.comp_def]
          go_wp2_with fail
          refine (quotedByte_plain c t _ hpl).mono ?_
          rintro e w4 ⟨rfl, nq, rfl⟩
          go_wp2_with fail
          refine (WriteByte_any w.heap.size w.heap.size v _ _ _ (Bld.drewN hB nq) (by rw [Lib.byteCells_length]; simp at hal; omega) hbr.size).mono ?_
          rintro e w5 ⟨rfl, v5, hB5, _, _, hb5⟩
          go_wp2
          go_roundw
          case rel => exact ⟨t, acc ++ [c], v5, rfl, by rw [byteCells_snoc]; exact hB5, (below_drewN hbr nq).trans hb5, HE.out, by simp at hal ⊢; omega⟩
          case measure => first | (simp [sizeS]; done) | (simp [sizeS]; omega)

set_option maxHeartbeats 1000000 in
theorem Unquote_any (l : List UInt8) (w : World) (hl : l.length ≤ 1099511627776) :
    Calls Tryd.prog 178 #[.string ⟨l.toArray⟩] w fun e w' => e = .returned (.tuple #[.string ⟨(uqa l).toArray⟩, .string ⟨(uqb l).toArray⟩, .int .i64 (uqe l)]) ∧ Below w.heap.size w w' := by
  match l, hl with
  | [], _ =>
    go_enter Tryd.func178, Tryd.ntmps178
    go_wp2
    go_ret3
    exact ⟨ret_uq (uq_none rfl), Below.refl _ _⟩
  | c :: t, hl =>
    by_cases h : c.toNat = 34
    · obtain rfl : c = 34 := UInt8.toNat_inj.1 h
      exact Unquote_body t w (by simp at hl; omega)
    · have hb : ((c.toNat : Int) != 34) = true := by simp; omega
      have HU : Hid (unquote (c :: t) = none) := by show unquote (c :: t) = none; simp [unquote, h]
      clear h
      go_enter Tryd.func178, Tryd.ntmps178
      go_wp2
      go_ret3
      exact ⟨ret_uq (uq_none HU.out), Below.refl _ _⟩
end Go.Proofs.YtgiojkhmkeocfaaDoor

/- The code's reader of layer 15, walked: what is wrong is thrown; the next line, bare; the end of a side; stars. -/
namespace Go.Proofs.YtgiojkhmkeocfaaDoor
open Go.RowKit
attribute [local go_sem] ByteArray.extract_mk no_at

section
variable {u u' : World} {R : Nat} {vL : Value} {p : Int}
end
/-- the next line behind what must stand ahead -/
def barP (hd : List UInt8) (p : Nat) (ls : List (List UInt8)) : Except (Nat × Int) (List UInt8 × List (List UInt8)) :=
  match nxt p ls with
  | .error e => .error e
  | .ok (s, r) => if hd.isPrefixOf s = true then .ok (s.drop hd.length, r) else .error (p + 1, 3)
/-- what a bare line leaves behind -/
def BrQ (R : Nat) (X : Except (Nat × Int) (List UInt8 × List (List UInt8))) (w : World) (x : Ending) (w' : World) : Prop :=
  match X with
  | .error (a, e) => Thr (a : Int) e x w' ∧ w.grownBy w' (some R)
  | .ok (s, _) => x = .returned (.string ⟨s.toArray⟩) ∧ ∃ n, w' = w.drewN n
theorem trim_snoc (s : List UInt8) : Lib.trimSuffix (s ++ [10]) [10] = s := by
  unfold Lib.trimSuffix
  rw [suf_feed, if_pos (fd_snoc s)]
  simp
end Go.Proofs.YtgiojkhmkeocfaaDoor

/- The code's names, numbers, stars and signs of a side (layer 15), walked. -/
namespace Go.Proofs.YtgiojkhmkeocfaaDoor
open Go.RowKit Go.Proofs.YtgiojkhmkeocfaaDoor
attribute [local go_sem] ByteArray.extract_mk no_at

theorem body_len (n : Nat) : ∀ (t a b : List UInt8), t.length ≤ n → Q.body t = some (a, b) → a.length ≤ t.length := by
  induction n with
  | zero =>
    intro t a b h hb
    have : t = [] := List.eq_nil_of_length_eq_zero (by omega)
    subst this
    cases hb
  | succ n ih =>
    intro t a b h hb
    cases t with
    | nil => cases hb
    | cons c t =>
      simp only [List.length_cons] at h ⊢
      rw [Q.body.eq_def] at hb
      simp only at hb
      split at hb
      · cases hb; simp
      · split at hb
        · obtain ⟨p, hp, he⟩ := Option.map_eq_some_iff.1 hb
          cases he
          have := ih t p.1 p.2 (by omega) hp
          simp only [List.length_cons]
          omega
        · split at hb
          · split at hb
            · rename_i x y t'
              simp only [List.length_cons] at h ⊢
              split at hb
              · obtain ⟨p, hp, he⟩ := Option.map_eq_some_iff.1 hb
                cases he
                have := ih t' p.1 p.2 (by omega) hp
                simp only [List.length_cons]
                omega
              · cases hb
            · cases hb
          · cases hb
theorem uqa_len (s : List UInt8) : (Q.uqa s).length ≤ s.length := by
  cases hu : Q.unquote s with
  | none => rw [(Q.uq_none hu).1]; simp
  | some p =>
    obtain ⟨a, b⟩ := p
    rw [(Q.uq_some hu).1]
    cases s with
    | nil => cases hu
    | cons c t =>
      simp only [Q.unquote] at hu
      split at hu
      · have := body_len t.length t a b (Nat.le_refl _) hu
        simp only [List.length_cons]
        omega
      · cases hu
theorem head_pre (s : List UInt8) : Lib.hasPrefix s [34] = (s.head? == some 34) := by
  cases s with
  | nil => rfl
  | cons c t =>
    show ((34 == c) && true) = (some c == some 34)
    rw [Bool.and_true, Bool.eq_iff_iff, beq_iff_eq, beq_iff_eq, Option.some.injEq]
    exact ⟨fun h => h.symm, fun h => h.symm⟩
/-- the name that a text stands for, or why it stands for none -/
def pnV (r : Bool) (n : List UInt8) : Value := if r = true then .tuple #[.string ⟨n.toArray⟩, .int .i64 0] else .tuple #[.string ⟨#[]⟩, .int .i64 253]
set_option maxHeartbeats 4000000 in
set_option maxRecDepth 40000 in
theorem cnamed_f (s : List UInt8) (w : World) (hl : s.length ≤ 1099511627776) (n : List UInt8) (r : Bool) (HN : Hid (unC s = n)) (HR : Hid (nokC s = r)) :
    Calls Tryd.prog 163 #[.string ⟨s.toArray⟩] w fun e w' => e = .returned (pnV r n) ∧ Below w.heap.size w w' := by
  have hnl : n.length ≤ 1099511627776 := (by
    rw [← HN.out]
    unfold unC
    split
    · simp
    · split
      · have := uqa_len s
        omega
      · exact hl)
  obtain ⟨T, hT⟩ : ∃ T, nameT n = T := ⟨_, rfl⟩
  have hnm := fun u => cname_f n u hnl T hT
  have HF : Hid ((decide (n.length ≤ 64) && (T == s)) = r) := (by
    have h := HR.out
    unfold nokC at h
    rw [HN.out, hT] at h
    exact h)
  have hhp : ∀ (b : Bool), (s.head? == some 34) = b → ∀ u, Calls Tryd.prog 141 #[.string ⟨s.toArray⟩, .string ⟨#[34]⟩] u fun e w' => e = .returned (.bool b) ∧ w' = u := (by
    intro b hb u
    refine (Tryd.strings_HasPrefix ⟨s.toArray⟩ ⟨#[34]⟩ u).mono ?_
    rintro e w' ⟨rfl, rfl⟩
    have e1 : Lib.hasPrefix (⟨s.toArray⟩ : ByteArray).data.toList (⟨#[34]⟩ : ByteArray).data.toList = b := (head_pre s).trans hb
    rw [e1]
    exact ⟨rfl, rfl⟩)
  have huq := fun u => Unquote_any s u hl
  clear hT HR
  go_enter Tryd.func163, Tryd.ntmps163
  go_upto_block 0 with fail
  go_cut [4] (fun nv wz => nv = .string ⟨n.toArray⟩ ∧ Below w.heap.size w wz)
  case first =>
    by_cases h1 : s = devN
    · have e1 : (s == [47, 100, 101, 118, 47, 110, 117, 108, 108]) = true := (by rw [beq_iff_eq]; exact h1)
      have HE : Hid ([] = n) := (by have h := HN.out; unfold unC at h; rw [if_pos h1] at h; exact h)
      clear h1
      go_wp2
      go_meet
      case rel => exact ⟨by rw [← HE.out], Below.refl _ _⟩
    · have e1 : (s == [47, 100, 101, 118, 47, 110, 117, 108, 108]) = false := beq_eq_false_iff_ne.2 h1
      by_cases h2 : s.head? = some 34
      · have HE : Hid (Q.uqa s = n) := (by have h := HN.out; unfold unC at h; rw [if_neg h1, if_pos h2] at h; exact h)
        have hc := hhp true (beq_iff_eq.2 h2)
        clear h1 h2
        go_wp2_with fail
        refine (hc _).mono ?_
        rintro e w1 ⟨rfl, rfl⟩
        go_wp2_with fail
        refine (huq _).mono ?_
        rintro e w2 ⟨rfl, hB2⟩
        go_wp2
        go_meet
        case rel => exact ⟨by rw [← HE.out], hB2⟩
      · have HE : Hid (s = n) := (by have h := HN.out; unfold unC at h; rw [if_neg h1, if_neg h2] at h; exact h)
        have hc := hhp false (beq_eq_false_iff_ne.2 h2)
        clear h1 h2
        go_wp2_with fail
        refine (hc _).mono ?_
        rintro e w1 ⟨rfl, rfl⟩
        go_wp2
        go_meet
        case rel => exact ⟨by rw [← HE.out], Below.refl _ _⟩
  case rest =>
  obtain ⟨rfl, hBc⟩ := hcut
  by_cases h3 : n.length ≤ 64
  · have i1 : ¬ (64 : Int) < (n.length : Int) := by omega
    cases h4 : T == s with
    | true =>
      have HE : Hid (true = r) := (by have h := HF.out; rw [decide_eq_true h3, Bool.true_and, h4] at h; exact h)
      have h5 : (T != s) = false := (by unfold bne; rw [h4]; rfl)
      clear HF
      go_wp2_with fail
      refine (hnm _).mono ?_
      rintro e w2 ⟨rfl, hB2⟩
      go_wp2
      go_ret2
      exact ⟨by rw [← HE.out]; rfl, hBc.trans (hB2.mono hBc.size)⟩
    | false =>
      have HE : Hid (false = r) := (by have h := HF.out; rw [decide_eq_true h3, Bool.true_and, h4] at h; exact h)
      have h5 : (T != s) = true := (by unfold bne; rw [h4]; rfl)
      clear HF
      go_wp2_with fail
      refine (hnm _).mono ?_
      rintro e w2 ⟨rfl, hB2⟩
      go_wp2
      go_ret2
      exact ⟨by rw [← HE.out]; rfl, hBc.trans (hB2.mono hBc.size)⟩
  · have HE : Hid (false = r) := (by have h := HF.out; rw [decide_eq_false h3, Bool.false_and] at h; exact h)
    have i1 : (64 : Int) < (n.length : Int) := by omega
    clear HF
    go_wp2
    go_ret2
    exact ⟨by rw [← HE.out]; rfl, hBc⟩
/-- what a name leaves behind -/
def NmX (R : Nat) (X : Except (Nat × Int) (List UInt8 × List (List UInt8))) (w : World) (x : Ending) (w' : World) : Prop :=
  match X with
  | .error (a, e) => Thr (a : Int) e x w' ∧ w.grownBy w' (some R)
  | .ok (s, _) => x = .returned (.string ⟨s.toArray⟩) ∧ Below w.heap.size w w'
theorem nam_bar {hd : List UInt8} (h4 : hd.length = 4) (p : Nat) (ls : List (List UInt8)) : namP hd p ls = match barP hd p ls with
    | .error e => .error e
    | .ok (s, r) => if nokC s = true then .ok (unC s, r) else .error (p + 1, 253) := by
  unfold namP barP
  cases nxt p ls with
  | error e => rfl
  | ok z =>
    obtain ⟨s, r⟩ := z
    dsimp only
    split
    · rw [h4, named_code]
      split
      · rename_i hq
        dsimp only
        split at hq
        · cases hq
        · rename_i h2
          rw [if_neg h2]
      · rename_i nn hq
        dsimp only
        split at hq
        · rename_i h2
          cases hq
          rw [if_pos h2]
        · cases hq
    · rfl
end Go.Proofs.YtgiojkhmkeocfaaDoor

/- The code's numbers, stars and signs of a side (layer 15), walked. -/
namespace Go.Proofs.YtgiojkhmkeocfaaDoor
open Go.RowKit
attribute [local go_sem] ByteArray.extract_mk no_at

/-- what numbers answers -/
def NcQ (w : World) (s : List UInt8) (e : Ending) (w' : World) : Prop := ∃ x n r, e = .returned (.tuple #[.int .i64 x, .int .i64 n, .bool r]) ∧ nmC s = (if r = true then some (x, n) else none) ∧ Below w.heap.size w w'
theorem sd_two (sg a b : UInt8) (t : List UInt8) : isSd sg (a :: b :: t) = (decide (b.toNat = 32) && (decide (a.toNat = 32) || decide (a.toNat = 33) || decide (a.toNat = sg.toNat))) := by
  simp only [isSd]
  rw [Bool.eq_iff_iff]
  simp only [Bool.and_eq_true, Bool.or_eq_true, beq_iff_eq, decide_eq_true_eq, ← UInt8.toNat_inj]
  constructor
  · rintro ⟨(h | h) | h, h2⟩ <;> exact ⟨h2, by simp [h]⟩
  · rintro ⟨h2, (h | h) | h⟩ <;> exact ⟨by simp [h], h2⟩
theorem pkS_at {L : List (List UInt8)} {p : Nat} (h : p < L.length) : pkS (L.drop p) = starsT.isPrefixOf L[p] := by
  rw [List.drop_eq_getElem_cons h]
  rfl
/-- a line of stars -/
def starsP (k p : Nat) (ls : List (List UInt8)) : Except (Nat × Int) (List (List UInt8)) :=
  match nxt p ls with
  | .error e => .error e
  | .ok (s, r) => if isSt s = true then if 4096 ≤ k then .error (p + 1, 9) else .ok r else .error (p + 1, 3)
theorem stars_bar (k p : Nat) (ls : List (List UInt8)) : starsP k p ls = match barP starsT p ls with
    | .error e => .error e
    | .ok (t, r) => if (t.isEmpty || t.head? == some 32) = true then if 4096 ≤ k then .error (p + 1, 9) else .ok r else .error (p + 1, 3) := by
  unfold starsP barP
  cases nxt p ls with
  | error e => rfl
  | ok z =>
    obtain ⟨s, r⟩ := z
    dsimp only
    unfold isSt
    by_cases h : starsT.isPrefixOf s = true
    · rw [h, Bool.true_and, if_pos rfl]
      rfl
    · rw [Bool.eq_false_iff.2 h, Bool.false_and, if_neg (by decide), if_neg (by decide)]
end Go.Proofs.YtgiojkhmkeocfaaDoor

/- slices.Clone and slices.DeleteFunc at lines with signs, and the code's kept of layer 15, walked. -/
namespace Go.Proofs.YtgiojkhmkeocfaaDoor
open Go.RowKit

/-- a row of lines in a block of its own -/
structure Mrow (w : World) (g n cap : Nat) (r : List Mk) : Prop where
  ex : ∃ cur : Array Value, w.heap[g]? = some (.cells cur 91 (0, 0)) ∧ cur.size = cap * 2 ∧ cur.toList.take (n * 2) = mkcells r
  le : n ≤ cap
  len : r.length = n
theorem mkcells_set (r : List Mk) : ∀ (i : Nat) (m : Mk), i < r.length → ((mkcells r).set (i * 2) (.int .u8 m.sg)).set (i * 2 + 1) (.string ⟨m.tx.toArray⟩) = mkcells (r.set i m) := by
  induction r with
  | nil => intro i m h; simp at h
  | cons x r ih =>
    intro i m h
    have e1 : mkcells (x :: r) = .int .u8 x.sg :: .string ⟨x.tx.toArray⟩ :: mkcells r := rfl
    cases i with
    | zero => rw [e1]; rfl
    | succ i =>
      have e2 : (i + 1) * 2 = i * 2 + 1 + 1 := by omega
      have e3 : mkcells ((x :: r).set (i + 1) m) = .int .u8 x.sg :: .string ⟨x.tx.toArray⟩ :: mkcells (r.set i m) := rfl
      rw [e1, e2, e3]
      simp only [List.set_cons_succ]
      rw [ih i m (by simpa using h)]
section
variable {w u : World} {g n cap : Nat} {r : List Mk}
theorem Mrow.low (h : Mrow w g n cap r) (hb : Below w.heap.size w u) : Mrow u g n cap r := by
  obtain ⟨⟨cur, h1, h2, h3⟩, hl, hn⟩ := h
  exact ⟨⟨cur, (hb.block g (Array.getElem?_eq_some_iff.1 h1).1).trans h1, h2, h3⟩, hl, hn⟩
theorem Mrow.lt (h : Mrow w g n cap r) : g < w.heap.size := by
  obtain ⟨⟨cur, h1, _⟩, _⟩ := h
  exact (Array.getElem?_eq_some_iff.1 h1).1
theorem Mrow.holds (h : Mrow w g n cap r) (k : Nat) (hk : k ≤ n) : HMk w (.slice (some ⟨g, 0, none⟩) k cap) (r.take k) := by
  obtain ⟨⟨cur, h1, h2, h3⟩, hl, hn⟩ := h
  have hlk : (r.take k).length = k := by rw [List.length_take]; omega
  unfold HMk
  rw [hlk]
  refine .inr ⟨⟨g, 0, none⟩, cap, rfl, by omega, fun j v hj => ?_⟩
  rw [← mkcells_take, ← h3, List.take_take] at hj
  have hjl : j < k * 2 := by
    have := (List.getElem?_eq_some_iff.1 hj).1
    rw [List.length_take] at this
    omega
  rw [List.getElem?_take_of_lt (by omega)] at hj
  rw [add_none, Nat.zero_add, Lib.cell_of_heap h1]
  simpa using hj
theorem Mrow.store (h : Mrow w g n cap r) (i : Nat) (hi : i < n) (m : Mk) : Mrow ((w.setCell ⟨g, i * 2, none⟩ (.int .u8 m.sg)).setCell ⟨g, i * 2 + 1, none⟩ (.string ⟨m.tx.toArray⟩)) g n cap (r.set i m) := by
  obtain ⟨⟨cur, h1, h2, h3⟩, hl, hn⟩ := h
  have s1 := heap_setCell_same w g (i * 2) cur _ (.int .u8 m.sg) h1
  have s2 := heap_setCell_same _ g (i * 2 + 1) _ _ (.string ⟨m.tx.toArray⟩) s1
  refine ⟨⟨_, s2, by simpa using h2, ?_⟩, hl, by simpa using hn⟩
  have e1 : ((cur.setIfInBounds (i * 2) (.int .u8 m.sg)).setIfInBounds (i * 2 + 1) (.string ⟨m.tx.toArray⟩)).toList = (cur.toList.set (i * 2) (.int .u8 m.sg)).set (i * 2 + 1) (.string ⟨m.tx.toArray⟩) := by simp
  rw [e1, List.take_set, List.take_set, h3, mkcells_set r i m (by omega)]
theorem Mrow.cells (h : Mrow w g n cap r) (i : Nat) (hi : i < n) : ∃ x y, w.cell? ⟨g, i * 2, none⟩ = some (.int .u8 x) ∧ w.cell? ⟨g, i * 2 + 1, none⟩ = some (.string y) := by
  have hh := h.holds n (Nat.le_refl _)
  have hl := h.len
  obtain ⟨b, off, he, hb, hcl⟩ := HMk.at hh (by rw [List.length_take]; omega)
  cases he
  have hc := hcl i (by rw [List.length_take]; omega)
  rw [Nat.zero_add] at hc
  exact ⟨_, _, hc.1, hc.2⟩
theorem Mrow.frozen (h : Mrow w g n cap r) (j : Nat) : w.frozen? ⟨g, j, none⟩ = false := by
  obtain ⟨⟨cur, h1, _⟩, _⟩ := h
  exact Lib.frozen_of_heap h1 j
end
theorem mrow_of {w : World} {B n : Nat} {v : Value} {l : List Mk} (h : w.ownsRow B 91 2 v n (mkcells l)) (h0 : 0 < n) : ∃ g cap, v = .slice (some ⟨g, 0, none⟩) n cap ∧ B ≤ g ∧ Mrow w g n cap l := by
  have hl := h.1
  rw [mkcells_length] at hl
  rcases h.2 with ⟨_, h1⟩ | ⟨g, cap, cur, rfl, q2, q3, q4, q5, q6, q7⟩
  · omega
  · exact ⟨g, cap, rfl, q2, ⟨cur, q3, q6, q7⟩, q4, by omega⟩
theorem run_clear_mk (w : World) (ty : TypeId) (g o n c : Nat) (cur : List Value) (hg : w.heap[g]? = some (.cells cur.toArray 91 (0, 0))) (hfit : o + n * 2 ≤ cur.length) :
    ∃ u, (Builtin.clear_ #[41] ty #[.slice (some ⟨g, o, none⟩) n c]).run Tryd.prog w = .ok (.tuple #[]) u ∧ w.grownBy u (some g) ∧ ∃ cur' : List Value, u.heap[g]? = some (.cells cur'.toArray 91 (0, 0)) ∧ cur'.length = cur.length ∧ cur'.take o = cur.take o := by
  have hT := Tryd.underlying41
  cases n with
  | zero => exact ⟨w, by simp [Builtin.clear_, run_underlying hT], World.grownBy.refl _ _, cur, hg, rfl, rfl⟩
  | succ n =>
    obtain ⟨zs, hzs⟩ : ∃ zs : List Value, (Builtin.zeroCells (Value.agg #[.int .u8 0, .string ⟨#[]⟩]).cells (n + 1)).toList = zs := ⟨_, rfl⟩
    have hzl : zs.length = (n + 1) * 2 := by rw [← hzs]; simp [Builtin.zeroCells, Value.cells]
    have hz1 : ∀ v ∈ zs, v.oneCell' = true := by
      intro v hv
      rw [← hzs] at hv
      simp [Builtin.zeroCells, Value.cells] at hv
      obtain ⟨k, hk, rfl⟩ := hv
      have : k % 2 = 0 ∨ k % 2 = 1 := by omega
      rcases this with h | h <;> simp [h] <;> rfl
    have hst := run_storeCells_at Tryd.prog g o _ zs 0 cur.toArray w hg (by simp; omega) hz1
    have hzv : (zeroValue 91).run Tryd.prog w = .ok (.agg #[.int .u8 0, .string ⟨#[]⟩]) w := by
      obtain ⟨i0, hi, hz0, _, _⟩ := info_parts infoMk
      simp [zeroValue, typeInfo, hi, hz0]
    refine ⟨w.setRow g (spl cur o zs).toArray, ?_, setRow_grown _ _ _, _, setRow_heap w g _ _ _ _ hg, spl_length (by omega), ?_⟩
    · simp [Builtin.clear_, run_underlying hT, hzv, hzs, hst, spl]
    · unfold spl
      rw [List.append_assoc, List.take_left' (by simp; omega)]
theorem idxI_first (p : Mk → Bool) (l : List Mk) : ∀ k, (idxI p k l = -1 ∧ ∀ m ∈ l, p m = false) ∨ ∃ i, ∃ h : i < l.length, idxI p k l = ((k + i : Nat) : Int) ∧ p l[i] = true ∧ ∀ m ∈ l.take i, p m = false := by
  induction l with
  | nil => intro k; exact .inl ⟨rfl, fun m hm => by cases hm⟩
  | cons x l ih =>
    intro k
    by_cases h : p x = true
    · refine .inr ⟨0, by simp, ?_, by simpa using h, by simp⟩
      have e : idxI p k (x :: l) = (k : Int) := if_pos h
      rw [e]; simp
    · have e : idxI p k (x :: l) = idxI p (k + 1) l := if_neg h
      rcases ih (k + 1) with ⟨h1, h2⟩ | ⟨i, hi, h1, h2, h3⟩
      · refine .inl ⟨e.trans h1, fun m hm => ?_⟩
        rcases List.mem_cons.1 hm with rfl | hm
        · exact Bool.eq_false_iff.2 h
        · exact h2 m hm
      · refine .inr ⟨i + 1, by simpa using hi, ?_, by simpa using h2, fun m hm => ?_⟩
        · rw [e, h1]; congr 1; omega
        · rw [List.take_succ_cons] at hm
          rcases List.mem_cons.1 hm with rfl | hm
          · exact Bool.eq_false_iff.2 h
          · exact h3 m hm
theorem kept_all {l : List Mk} (h : ∀ m ∈ l, (m.sg != 32) = false) : keptM l = l := by
  unfold keptM
  rw [List.filter_eq_self]
  intro m hm
  have := h m hm
  simpa using this
theorem kept_snoc (l : List Mk) (j : Nat) (hj : j < l.length) : keptM (l.take (j + 1)) = keptM (l.take j) ++ (if l[j].sg = 32 then [l[j]] else []) := by
  rw [List.take_succ_eq_append_getElem hj]
  unfold keptM
  rw [List.filter_append]
  congr 1
  by_cases h : l[j].sg = 32
  · rw [if_pos h]; simp [h]
  · rw [if_neg h]; simp [h]
end Go.Proofs.YtgiojkhmkeocfaaDoor

/- The code's kept, all, matched, counted of layer 15, walked. -/
namespace Go.Proofs.YtgiojkhmkeocfaaDoor
open Go.RowKit

theorem mk_nilC (n c : Nat) (ao : Addr) (u : World) : (binOp .eql 41 (.slice (some ao) n c) (.slice none 0 0)).run Tryd.prog u = .ok (.bool false) u := by kernel_rfl
theorem mk_nil0 (u : World) : (binOp .eql 41 (.slice none 0 0) (.slice none 0 0)).run Tryd.prog u = .ok (.bool true) u := by kernel_rfl
/-- a list of lines, nil if it is empty -/
structure Nl (w : World) (v : Value) (l : List Mk) : Prop where
  hold : HMk w v l
  nil : l = [] → v = .slice none 0 0
theorem Nl.keep {w u : World} {v : Value} {l : List Mk} (h : Nl w v l) (hb : Below w.heap.size w u) : Nl u v l := ⟨h.hold.keep hb (Nat.le_refl _), h.nil⟩
theorem all_any (k : Int) (l : List Mk) : (l.any fun m => m.sg != k) = !allM k l := by
  unfold allM
  induction l with
  | nil => rfl
  | cons m l ih =>
    rw [List.any_cons, List.all_cons, ih]
    cases h : m.sg == k <;> simp [bne, h]
end Go.Proofs.YtgiojkhmkeocfaaDoor

/- The append of a text onto an owned row of bytes, with the place of the new row told; what a writer leaves as it was. Of no program. -/
namespace Go.Proofs.YtgiojkhmkeocfaaDoor
open Go.RowKit Go.Proofs.YtgiojkhmkeocfaaDoor Go.Lib

section
variable {P : Program} (w : World)
theorem run_append_strX (base : Nat) (t u ty e : TypeId) (i : TypeInfo) (ht : P.underlying t = some (.slice e)) (hu : P.underlying u = some .string) (hi : P.info? e = some i) (hz : i.zero = some (.int .u8 0))
    (hsize : i.size = 1) (hby : i.bytes = 1)
    (v : Value) (n : Nat) (xs : List Value) (hown : w.ownsRowF base e 1 v n xs) (s : ByteArray)
    (h63 : n + s.size ≤ maxLen) (hbytes : n + s.size ≤ 140737488355328) (hbase : base ≤ w.heap.size) :
    ∃ v' w', (Builtin.append_ #[t, u] ty #[v, .string s]).run P w = .ok v' w' ∧ w'.ownsRowF base e 1 v' (n + s.size) (xs ++ strCells s) ∧ w.grownBy w' v.ownBlock ∧
      (v'.ownBlock = v.ownBlock ∨ ∃ g, v'.ownBlock = some g ∧ w.heap.size ≤ g) := by
  rcases hown.2 with ⟨rfl, rfl⟩ | ⟨g, cap, cur, fz, rfl, hbg, hg, hfz, hnc, hcm, hcs, htake⟩
  · obtain ⟨v', w', r1, r2, r3, r4⟩ := run_append_own_string (P := P) w w.heap.size t u ty e i ht hu hi hz hsize hby (.slice none 0 0) 0 xs ⟨hown.1, .inl ⟨rfl, rfl⟩⟩ s h63 hbytes (Nat.le_refl _)
    have r5 := World.ownsRowF_of r2
    refine ⟨v', w', r1, ⟨r5.1, ?_⟩, r3, ?_⟩
    · rcases r5.2 with h | ⟨g, cap, cur, fz, q1, q2, q3⟩
      · exact .inl h
      · exact .inr ⟨g, cap, cur, fz, q1, by omega, q3⟩
    · rcases r5.2 with ⟨h, _⟩ | ⟨g, cap, cur, fz, q1, q2, q3⟩
      · exact .inl (by rw [h])
      · exact .inr ⟨g, by rw [q1]; rfl, q2⟩
  · have hsmall : n + s.size ≤ 9223372036854775807 := by simp only [maxLen] at h63; omega
    have hxl : xs.length = n := by simpa using hown.1
    have hlen : (xs ++ strCells s).length = (n + s.size) * 1 := by rw [List.length_append, hxl, strCells_length, Nat.mul_one]
    by_cases hroom : n + s.size ≤ cap
    · have hcs' : cur.size = cap := by simpa using hcs
      have hr := run_append_room_stringF (P := P) w t u ty e i ht hu hi hsize g n cap cur fz hg (by simpa using hfz) s hroom (by omega)
      refine ⟨_, _, hr, ⟨hlen, .inr ⟨g, cap, _, fz, rfl, hbg, setRow_heap w g cur _ e _ hg, by omega, hroom, hcm, ?_, ?_⟩⟩, ⟨rfl, rfl, rfl, by simp, fun k _ hk => setRow_other w g k _ (fun e => hk (by simp [Value.ownBlock, e]))⟩, .inl rfl⟩
      · simp only [List.size_toArray, List.length_append, List.length_take, List.length_drop, Array.length_toList, strCells_length]
        omega
      · have ht' : cur.toList.take n = xs := by simpa using htake
        rw [ht', ← hlen]
        exact List.take_left
    · have holds : ∀ j u, xs[j]? = some u → w.cell? ((⟨g, 0, none⟩ : Addr).add j) = some u := hown.cells (g := g) rfl
      have hr := run_append_grow_string (P := P) w t u ty e i (.int .u8 0) ht hu hi hz ⟨g, 0, none⟩ n cap xs (by rw [hsize]; simpa using hxl) holds s (by omega) (by omega) (by rw [hby]; exact growslice_fits (by omega) (by omega))
      have hge := grownCap_ge w (n + s.size) cap e
      have hcm2 : grownCap w (n + s.size) cap e ≤ maxLen := grownCap_le_maxLen w (n + s.size) cap e h63
      refine ⟨_, _, hr, ⟨hlen, .inr ⟨w.heap.size, _, _, (0, 0), rfl, hbase, _root_.Go.heap_alloc_new w.drew _, Nat.zero_le _, hge, hcm2, ?_, ?_⟩⟩, ⟨rfl, rfl, rfl, by simp, fun k hk _ => Below.heap_alloc w.drew _ k hk⟩, .inr ⟨_, rfl, Nat.le_refl _⟩⟩
      · have hz1 : (Value.int IntKind.u8 0).cells.size = 1 := rfl
        simp only [Array.size_append, List.size_toArray, size_zeroCells, hz1, hxl, strCells_length]
        omega
      · simp only [Array.toList_append, List.append_assoc]
        rw [← List.append_assoc, ← hlen]
        exact List.take_left

theorem wpList_append_strX {ops : Array Oper} {rest : List Oper} {o : Oper} {a : Act} {Q : Exit → Act → World → Prop} (hgd : o.guard = none) (sl x : Operand) (t u : TypeId)
    (ho : o.op = .call { callee := .builtin .append, args := #[sl, x], argTypes := #[t, u] })
    (base : Nat) (e : TypeId) (i : TypeInfo) (ht : P.underlying t = some (.slice e)) (hu : P.underlying u = some .string) (hi : P.info? e = some i) (hz : i.zero = some (.int .u8 0))
    (hsize : i.size = 1) (hby : i.bytes = 1)
    (v : Value) (n : Nat) (xs : List Value) (hs : a.eval sl = v) (hown : w.ownsRowF base e 1 v n xs) (s : ByteArray) (hx : a.eval x = .string s)
    (h63 : n + s.size ≤ maxLen) (hbytes : n + s.size ≤ 140737488355328) (hbase : base ≤ w.heap.size)
    (h : ∀ v' w', w'.ownsRowF base e 1 v' (n + s.size) (xs ++ strCells s) → w.grownBy w' v.ownBlock → (v'.ownBlock = v.ownBlock ∨ ∃ g, v'.ownBlock = some g ∧ w.heap.size ≤ g) → wpList P ops Q rest (a.put o.dst v') w') : wpList P ops Q (o :: rest) a w := by
  refine wpList_plain hgd fun K hK => ?_
  obtain ⟨v', w', hr, h2, h3, h4⟩ := run_append_strX (P := P) w base t u o.type e i ht hu hi hz hsize hby v n xs hown s h63 hbytes hbase
  unfold Oper.wp execOp
  simp only [ho, resolve, invoke, builtin, Sem.run_bind, Sem.run_pure, Result.andThen_ok, List.map_toArray, List.map_cons, List.map_nil, hs, hx, hr]
  exact hK _ _ (h v' w' h2 h3 h4)
end
/-- a writer of the builder in block b, whose buffer was v and is v': all else is as it was -/
structure Wr (B b : Nat) (v v' : Value) (w w' : World) : Prop where
  aside : Go.Proofs.YtgiojkhmkeocfaaDoor.Aside b v w w'
  fresh : Fresh v v' w
  below : Below B w w'
theorem Wr.refl (B b : Nat) (v : Value) (w : World) : Wr B b v v w w := ⟨fun _ _ _ _ => rfl, .inl rfl, Below.refl B w⟩
theorem Wr.trans {B b : Nat} {v v1 v2 : Value} {w w1 w2 : World} (h : Wr B b v v1 w w1) (h' : Wr B b v1 v2 w1 w2) : Wr B b v v2 w w2 := by
  have hsz := h.below.size
  have hn : ∀ k, k < w.heap.size → v.ownBlock ≠ some k → v1.ownBlock ≠ some k := by
    intro k hk hv
    rcases h.fresh with q | ⟨g, q, hg⟩
    · rw [q]; exact hv
    · rw [q]
      intro e
      have := Option.some.inj e
      omega
  refine ⟨fun k hk hb hv => (h'.aside k (by omega) hb (hn k hk hv)).trans (h.aside k hk hb hv), ?_, h.below.trans h'.below⟩
  rcases h'.fresh with q | ⟨g, q, hg⟩
  · rcases h.fresh with q2 | ⟨g, q2, hg⟩
    · exact .inl (q.trans q2)
    · exact .inr ⟨g, q.trans q2, hg⟩
  · exact .inr ⟨g, q, by omega⟩
/-- what does not touch the builder, in the middle -/
theorem Wr.low {B b : Nat} {v : Value} {w w1 : World} (h : Below w.heap.size w w1) (hB : B ≤ w.heap.size) : Wr B b v v w w1 := ⟨fun k hk _ _ => h.block k hk, .inl rfl, h.mono hB⟩
theorem Wr.size {B b : Nat} {v v' : Value} {w w' : World} (h : Wr B b v v' w w') : w.heap.size ≤ w'.heap.size := h.below.size
/-- a block that is neither the builder's nor its buffer's -/
def Off (k : Nat) (b : Nat) (v : Value) : Prop := k ≠ b ∧ v.ownBlock ≠ some k
theorem Wr.block {B b : Nat} {v v' : Value} {w w' : World} (h : Wr B b v v' w w') {k : Nat} {o : Obj} (hk : w.heap[k]? = some o) (ho : Off k b v) : w'.heap[k]? = some o ∧ Off k b v' := by
  have hlt : k < w.heap.size := (Array.getElem?_eq_some_iff.1 hk).1
  refine ⟨(h.aside k hlt ho.1 ho.2).trans hk, ho.1, ?_⟩
  rcases h.fresh with q | ⟨g, q, hg⟩
  · rw [q]; exact ho.2
  · rw [q]
    intro e
    have := Option.some.inj e
    omega
end Go.Proofs.YtgiojkhmkeocfaaDoor

/- A strings.Builder that lies in a block of whatever type, alone or embedded: its copy check, and how bytes and texts are written into it, walked. -/
namespace Go.Proofs.YtgiojkhmkeocfaaDoor
open Go.RowKit Go.Proofs.YtgiojkhmkeocfaaDoor

theorem cwU8 : (Tryd.prog.info? 5).map (fun i => (i.zero, i.size, i.bytes)) = some (some (.int .u8 0), 1, 1) := by kernel_rfl
theorem cwBs : (Tryd.prog.info? 61).map (·.size) = some 2 := by kernel_rfl
/-- a builder lies at the head of a block of type T -/
def LaysB (T : TypeId) : Prop := liesAt Tryd.prog Tryd.prog.depth T (2 / Tryd.prog.cellsOf T) 0 61 1 = true ∧ T ≠ 5
theorem lays_b : LaysB 61 := ⟨by kernel_rfl, by decide⟩
set_option maxHeartbeats 1000000 in
set_option maxRecDepth 100000 in
theorem ccheck_fresh {T : TypeId} (hT : LaysB T) (b : Nat) (w : World) (h0 : w.cell? ⟨b, 0, none⟩ = some (.pointer none)) (hsh : w.shape? b = some (T, 2)) (hfz : w.frozen? ⟨b, 0, none⟩ = false) :
    Calls Tryd.prog 70 #[.pointer (some ⟨b, 0, none⟩)] w fun e w' => e = .returned (.tuple #[]) ∧ w' = w.setCell ⟨b, 0, none⟩ (.pointer (some ⟨b, 0, none⟩)) := by
  obtain ⟨j, hj, hjs⟩ := Option.map_eq_some_iff.1 cwBs
  go_enter Tryd.func70, Tryd.ntmps70
  go_wp2
  rw [Lib.run_to_unsafe w ⟨b, 0, none⟩ Tryd.underlying58 Tryd.underlying122 hj (by rw [hjs]; decide) hsh (Nat.zero_lt_succ 1)]
  simp only [Result.andThen]
  rw [Oper.upon_value]
  go_wp2
  rw [run_callFunc_extern Tryd.func110 (by kernel_rfl) (by kernel_rfl) (by kernel_rfl) (e := Extern.AbiNoEscape.same) (by kernel_rfl)]
  rw [Lib.run_noEscape]
  simp only [Result.andThen]
  rw [Oper.upon_value]
  go_wp2
  rw [Lib.run_from_unsafe w ⟨b, 0, none⟩ Tryd.underlying122 Tryd.underlying58 hj hsh hT.1]
  simp only [Result.andThen]
  rw [Oper.upon_value]
  go_wp2
  go_end0
  exact ⟨rfl, rfl⟩
theorem ccheck_any {T : TypeId} (hT : LaysB T) (B b : Nat) (v : Value) (bs : List Value) (w : World) (h : Bld T 5 B b v bs w) :
    Calls Tryd.prog 70 #[.pointer (some ⟨b, 0, none⟩)] w fun e w' => e = .returned (.tuple #[]) ∧ w'.heap[b]? = some (.cells #[.pointer (some ⟨b, 0, none⟩), v] T (0, 0)) ∧ Bld T 5 B b v bs w' ∧ Hid (∀ k, k ≠ b → w'.heap[k]? = w.heap[k]?) ∧ Below B w w' := by
  have h' := h
  obtain ⟨hB, ⟨p, hp, hbk⟩, hown, hne⟩ := h
  have hlt : b < w.heap.size := (Array.getElem?_eq_some_iff.1 hbk).1
  have c0 : w.cell? ⟨b, 0, none⟩ = some p := by rw [Lib.cell_of_heap hbk]; rfl
  have f0 : w.frozen? ⟨b, 0, none⟩ = false := Lib.frozen_of_heap hbk 0
  rcases hp with rfl | rfl
  · refine (ccheck_fresh hT b w c0 (by simp [World.shape?, hbk]) f0).mono ?_
    rintro e w' ⟨rfl, rfl⟩
    have hb' : (w.setCell ⟨b, 0, none⟩ (.pointer (some ⟨b, 0, none⟩))).heap[b]? = some (.cells #[.pointer (some ⟨b, 0, none⟩), v] T (0, 0)) := by
      simp only [World.setCell, Array.getElem?_modify, hbk]
      simp
    have ho : ∀ k, k ≠ b → (w.setCell ⟨b, 0, none⟩ (.pointer (some ⟨b, 0, none⟩))).heap[k]? = w.heap[k]? := fun k hk => Below.heap_setCell w _ _ k hk
    refine ⟨rfl, hb', ⟨hB, ⟨_, .inr rfl, hb'⟩, ?_, hne⟩, ho, (Below.refl B w).setCell (p := ⟨b, 0, none⟩) hB _⟩
    refine ⟨hown.1, ?_⟩
    rcases hown.2 with h | ⟨g, cap, cur, fz, q1, q2, q3, q4⟩
    · exact .inl h
    · exact .inr ⟨g, cap, cur, fz, q1, q2, (ho g (fun e => hne (by rw [q1, e]; rfl))).trans q3, q4⟩
  · refine (Tryd.copyCheck_used b w c0).mono ?_
    rintro e w' ⟨rfl, rfl⟩
    exact ⟨rfl, hbk, h', fun _ _ => rfl, Below.refl B _⟩
set_option maxHeartbeats 2000000 in
set_option maxRecDepth 100000 in
theorem cByte_f {T : TypeId} (hT : LaysB T) (B b : Nat) (v : Value) (bs : List Value) (c : Int) (w : World) (h : Bld T 5 B b v bs w) (hlen : bs.length + 1 ≤ 140737488355328) (hBw : B ≤ w.heap.size) :
    Calls Tryd.prog 101 #[.pointer (some ⟨b, 0, none⟩), .int .u8 c] w fun e w' => e = .returned .nilIface ∧ ∃ v', Bld T 5 B b v' (bs ++ [.int .u8 c]) w' ∧ Wr B b v v' w w' := by
  obtain ⟨i0, hi, hz0, hz1, hz2⟩ := info_parts cwU8
  go_enter Tryd.func101, Tryd.ntmps101
  go_wp2_with (go_at_call 70; refine (ccheck_any hT B b v bs _ h).mono ?_)
  rintro e w1 ⟨rfl, hbk, ⟨hB, _, hown, hne⟩, ho1, hb1⟩
  have c0 : w1.cell? ⟨b, 0, none⟩ = some (.pointer (some ⟨b, 0, none⟩)) := by rw [Lib.cell_of_heap hbk]; rfl
  have c1 : w1.cell? ⟨b, 1, none⟩ = some v := by rw [Lib.cell_of_heap hbk]; rfl
  have hlt : b < w1.heap.size := (Array.getElem?_eq_some_iff.1 hbk).1
  go_wp2_with (at_builtin; refine wpList_append_ownX _ rfl _ _ 59 rfl B 5 i0 (.int .u8 0) 1 1 Tryd.underlying59 hi hz0 hz1 hz2 rfl (by decide) _ _ _ rfl (hown.alloc _) ⟨w1.heap.size, 0, none⟩ 1 1 [.int .u8 c] rfl rfl ?c1 ?c2 ?c3 ?c4 ?c5 ?_)
  case c1 =>
    intro j u hj
    match j, hj with
    | 0, hj => simp at hj; subst hj; simp [Addr.add]
  case c2 => intro u hu; simp at hu; subst hu; rfl
  case c3 => unfold maxLen; omega
  case c4 => omega
  case c5 => have := hb1.size; simp; omega
  intro v' w2 hown' hgrow hfr
  have hb2 : w2.heap[b]? = some (.cells #[.pointer (some ⟨b, 0, none⟩), v] T (0, 0)) := by
    rw [hgrow.block b (by simp; omega) (fun e => hne e.symm), Lib.alloc_old w1 _ b hlt]
    exact hbk
  have d0 : w2.cell? ⟨b, 0, none⟩ = some (.pointer (some ⟨b, 0, none⟩)) := by rw [Lib.cell_of_heap hb2]; rfl
  have d1 : w2.cell? ⟨b, 1, none⟩ = some v := by rw [Lib.cell_of_heap hb2]; rfl
  have f1 : w2.frozen? ⟨b, 1, none⟩ = false := Lib.frozen_of_heap hb2 1
  obtain ⟨g, cap, rfl⟩ : ∃ g cap, v' = .slice (some ⟨g, 0, none⟩) (bs.length + 1) cap := by
    rcases hown'.2 with ⟨_, h0⟩ | ⟨g, cap, cur, fz, hv, _⟩
    · omega
    · exact ⟨g, cap, hv⟩
  go_wp2
  go_ret
  refine ⟨rfl, _, Bld.put hB (.inr rfl) hb2 (by simpa using hown') hT.2, ?_, ?_, ?_⟩
  · intro k hk hkb hkv
    rw [Below.heap_setCell w2 _ _ k hkb, hgrow.block k (by have := hb1.size; simp; omega) (fun e => hkv e.symm), Lib.alloc_old w1 _ k (by have := hb1.size; omega)]
    exact ho1.out k hkb
  · rcases hfr with h | ⟨g', h, h2⟩
    · exact .inl h
    · exact .inr ⟨g', h, by have := hb1.size; omega⟩
  · exact ((hb1.alloc (by have := hb1.size; omega) _).grown hgrow (by have := hb1.size; simp; omega) (fun k hk => (hown.lt k hk).1)).setCell (p := ⟨b, 1, none⟩) hB _
set_option maxHeartbeats 2000000 in
set_option maxRecDepth 100000 in
theorem cStr_f {T : TypeId} (hT : LaysB T) (B b : Nat) (v : Value) (bs : List Value) (s : List UInt8) (w : World) (h : Bld T 5 B b v bs w) (hlen : bs.length + s.length ≤ 140737488355328) (hBw : B ≤ w.heap.size) :
    Calls Tryd.prog 28 #[.pointer (some ⟨b, 0, none⟩), .string ⟨s.toArray⟩] w fun e w' => e = .returned (.tuple #[.int .i64 s.length, .nilIface]) ∧ ∃ v', Bld T 5 B b v' (bs ++ Lib.byteCells s) w' ∧ Wr B b v v' w w' := by
  obtain ⟨i0, hi, hz0, hz1, hz2⟩ := info_parts cwU8
  go_enter Tryd.func28, Tryd.ntmps28
  go_wp2_with (go_at_call 70; refine (ccheck_any hT B b v bs _ h).mono ?_)
  rintro e w1 ⟨rfl, hbk, ⟨hB, _, hown, hne⟩, ho1, hb1⟩
  have c0 : w1.cell? ⟨b, 0, none⟩ = some (.pointer (some ⟨b, 0, none⟩)) := by rw [Lib.cell_of_heap hbk]; rfl
  have c1 : w1.cell? ⟨b, 1, none⟩ = some v := by rw [Lib.cell_of_heap hbk]; rfl
  have hlt : b < w1.heap.size := (Array.getElem?_eq_some_iff.1 hbk).1
  go_wp2_with (at_builtin; refine wpList_append_strX _ rfl _ _ 59 9 rfl B 5 i0 Tryd.underlying59 Tryd.underlying9 hi hz0 hz1 hz2 _ _ _ rfl hown ⟨s.toArray⟩ rfl ?c3 ?c4 ?c5 ?_)
  case c3 => unfold maxLen; show bs.length + s.length ≤ _; omega
  case c4 => show bs.length + s.length ≤ _; omega
  case c5 => have := hb1.size; omega
  intro v' w2 hown' hgrow hfr
  have hb2 : w2.heap[b]? = some (.cells #[.pointer (some ⟨b, 0, none⟩), v] T (0, 0)) := by
    rw [hgrow.block b hlt (fun e => hne e.symm)]
    exact hbk
  have d0 : w2.cell? ⟨b, 0, none⟩ = some (.pointer (some ⟨b, 0, none⟩)) := by rw [Lib.cell_of_heap hb2]; rfl
  have d1 : w2.cell? ⟨b, 1, none⟩ = some v := by rw [Lib.cell_of_heap hb2]; rfl
  have f1 : w2.frozen? ⟨b, 1, none⟩ = false := Lib.frozen_of_heap hb2 1
  obtain ⟨ao, n', cap, rfl⟩ : ∃ ao n' cap, v' = .slice ao n' cap := by
    rcases hown'.2 with ⟨hv, _⟩ | ⟨g, cap, cur, fz, hv, _⟩
    · exact ⟨_, _, _, hv⟩
    · exact ⟨_, _, _, hv⟩
  have hlen2 : (bs ++ Lib.byteCells s).length = bs.length + s.length := by rw [List.length_append, Lib.byteCells_length]
  go_wp2
  go_ret2
  refine ⟨rfl, _, Bld.put hB (.inr rfl) hb2 (by rw [hlen2]; exact hown') hT.2, ?_, ?_, ?_⟩
  · intro k hk hkb hkv
    rw [Below.heap_setCell w2 _ _ k hkb, hgrow.block k (by have := hb1.size; omega) (fun e => hkv e.symm)]
    exact ho1.out k hkb
  · rcases hfr with h | ⟨g', h, h2⟩
    · exact .inl h
    · exact .inr ⟨g', h, by have := hb1.size; omega⟩
  · exact (hb1.grown hgrow (by have := hb1.size; omega) (fun k hk => (hown.lt k hk).1)).setCell (p := ⟨b, 1, none⟩) hB _
set_option maxHeartbeats 2000000 in
set_option maxRecDepth 100000 in
theorem cString_f {T : TypeId} (B b : Nat) (v : Value) (l : List UInt8) (h0 : l ≠ []) (w : World) (h : Bld T 5 B b v (Lib.byteCells l) w) :
    Calls Tryd.prog 35 #[.pointer (some ⟨b, 0, none⟩)] w fun e w' => e = .returned (.string ⟨l.toArray⟩) ∧ Below B w w' := by
  obtain ⟨hB, ⟨p, hp, hbk⟩, hown, hne⟩ := h
  have hl0 : l.length ≠ 0 := by simpa using h0
  rw [Lib.byteCells_length] at hown
  obtain ⟨g, cap, cur, fz, rfl, hbg, hg, hfz, hnc, hcm, hcs, htake⟩ : ∃ g cap cur fz, v = .slice (some ⟨g, 0, none⟩) l.length cap ∧ B ≤ g ∧ w.heap[g]? = some (.cells cur 5 fz) ∧ fz.2 ≤ l.length * 1 ∧ l.length ≤ cap ∧ cap ≤ maxLen ∧ cur.size = cap * 1 ∧ cur.toList.take (l.length * 1) = Lib.byteCells l := by
    rcases hown.2 with ⟨_, hz⟩ | ⟨g, cap, cur, fz, hv, r⟩
    · exact absurd hz hl0
    · exact ⟨g, cap, cur, fz, hv, r⟩
  have c1 : w.drew.cell? ⟨b, 1, none⟩ = some (.slice (some ⟨g, 0, none⟩) l.length cap) := by
    have : w.drew.heap[b]? = some (.cells #[p, .slice (some ⟨g, 0, none⟩) l.length cap] T (0, 0)) := hbk
    rw [Lib.cell_of_heap this]; rfl
  have hSD : (Builtin.unsafeSliceData_ #[59] 113 #[.slice (some ⟨g, 0, none⟩) l.length cap]).run Tryd.prog w.drew = .ok (.pointer (some ⟨g, 0, none⟩)) w.drew :=
    Lib.run_unsafeSliceData_row _ _ _ _ _ _ (by omega)
  have hUS : (Builtin.unsafeString_ #[113, 3] 9 #[.pointer (some ⟨g, 0, none⟩), .int .i64 l.length]).run Tryd.prog w.drew = .ok (.string ⟨l.toArray⟩) (w.drew.freeze ⟨g, 0, none⟩ l.length) := by
    refine Lib.run_unsafeString_row w.drew 113 3 9 5 Tryd.underlying113 (by kernel_rfl) g cur.size (by have hg' : w.drew.heap[g]? = some (.cells cur 5 fz) := hg; simp [World.shape?, hg']) l h0 (by omega) (by unfold maxLen at hcm; omega) ?_
    intro j x hx
    have := hown.cells (g := g) rfl j (.int .u8 x.toNat) (by simp [Lib.byteCells, hx])
    exact this
  have HF : Hid (Below B w (w.drew.freeze ⟨g, 0, none⟩ l.length)) := Lib.below_freeze (Below.drew (Below.refl B w)) (p := ⟨g, 0, none⟩) hbg _
  clear hfz htake hown hg
  have mixed : Tryd.prog.follows Departure.mixedOrders = true := by kernel_rfl
  go_enter Tryd.func35, Tryd.ntmps35
  go_wp2
  go_region_o
  all_goals (go_wp2; go_ret; exact ⟨rfl, HF.out⟩)
end Go.Proofs.YtgiojkhmkeocfaaDoor

/- The code's page of layer 15, walked: rows, lines, ranges; the signs that are shown. -/
namespace Go.Proofs.YtgiojkhmkeocfaaDoor
open Go.RowKit Go.Proofs.YtgiojkhmkeocfaaDoor

abbrev pgT : TypeId := 97
theorem lays_p : LaysB 97 := ⟨by kernel_rfl, by decide⟩
/-- a page that holds a text -/
def Pg (B b : Nat) (v : Value) (acc : List UInt8) (w : World) : Prop := Bld 97 5 B b v (Lib.byteCells acc) w
theorem Pg.low {B b : Nat} {v : Value} {acc : List UInt8} {w w' : World} (h : Pg B b v acc w) (hb : Below w.heap.size w w') : Pg B b v acc w' := Bld.kept h hb.block
set_option maxHeartbeats 1000000 in
theorem crow_f (B b : Nat) (v : Value) (acc s Z : List UInt8) (w : World) (h : Pg B b v acc w) (hBw : B ≤ w.heap.size) (HZ : Hid (acc ++ s ++ [10] = Z)) (hZ : Z.length ≤ 70368744177664) :
    Calls Tryd.prog 52 #[.pointer (some ⟨b, 0, none⟩), .string ⟨s.toArray⟩] w fun e w' => e = .returned (.tuple #[]) ∧ ∃ v', Pg B b v' Z w' ∧ Wr B b v v' w w' := by
  have hl := congrArg List.length HZ.out
  simp only [List.length_append, List.length_cons, List.length_nil] at hl
  go_enter Tryd.func52, Tryd.ntmps52
  go_wp2_with fail
  refine (cStr_f lays_p B b v _ s _ h (by rw [bcells_len]; omega) hBw).mono ?_
  rintro e w1 ⟨rfl, v1, h1, hw1⟩
  go_wp2_with fail
  refine (cStr_f lays_p B b v1 _ [10] _ h1 (by rw [List.length_append, bcells_len, bcells_len]; simp; omega) (Nat.le_trans hBw hw1.size)).mono ?_
  rintro e w2 ⟨rfl, v2, h2, hw2⟩
  go_wp2
  first
    | go_end0
    | refine bodyPost_ret (results_none rfl _ _ _) rfl ?_
    | refine bodyPost_end (results_none rfl _ _ _) rfl ?_
  refine ⟨rfl, v2, ?_, hw1.trans hw2⟩
  rw [← HZ.out]
  unfold Pg
  rw [Lib.byteCells_append, Lib.byteCells_append]
  exact h2
theorem cell_byte {c : Int} (h0 : 0 ≤ c) (h1 : c < 256) : Lib.byteCells [UInt8.ofNat c.toNat] = [.int .u8 c] := by
  have : ((UInt8.ofNat c.toNat).toNat : Int) = c := by
    rw [UInt8.toNat_ofNat']
    omega
  simp only [Lib.byteCells, List.map_cons, List.map_nil, this]
set_option maxHeartbeats 2000000 in
theorem cline_f (B b : Nat) (v : Value) (c : Int) (h0 : 0 ≤ c) (h1 : c < 256) (acc s Z : List UInt8) (w : World) (h : Pg B b v acc w) (hBw : B ≤ w.heap.size) (HZ : Hid (acc ++ (lnL [UInt8.ofNat c.toNat, 32] s).flatten = Z)) (hZ : Z.length ≤ 70368744177664) (hs : s.length ≤ 1099511627776) :
    Calls Tryd.prog 131 #[.pointer (some ⟨b, 0, none⟩), .int .u8 c, .string ⟨s.toArray⟩] w fun e w' => e = .returned (.tuple #[]) ∧ ∃ v', Pg B b v' Z w' ∧ Wr B b v v' w w' := by
  obtain ⟨T, hT⟩ : ∃ T, plT s = T := ⟨_, rfl⟩
  have HT : Hid (plT s = T) := hT
  have HE : Hid (acc ++ ([UInt8.ofNat c.toNat, 32] ++ T) = Z) := (by
    show _ = _
    rw [← HZ.out, pl_lines, hT])
  have hl := congrArg List.length HE.out
  simp only [List.length_append, List.length_cons, List.length_nil] at hl
  have hA : Hid (Lib.byteCells acc ++ [.int .u8 c] ++ [.int .u8 32] ++ Lib.byteCells T = Lib.byteCells Z) := (by
    show _ = _
    rw [← HE.out, Lib.byteCells_append, Lib.byteCells_append]
    have : Lib.byteCells [UInt8.ofNat c.toNat, 32] = [.int .u8 c] ++ [.int .u8 32] := (by
      have h := cell_byte h0 h1
      simp only [Lib.byteCells, List.map_cons, List.map_nil] at h ⊢
      rw [List.cons_eq_cons.1 h |>.1]
      rfl)
    rw [this]
    simp only [List.append_assoc])
  have hbl := bcells_len acc
  have hsl := bcells_len T
  clear HZ HE hT
  go_enter Tryd.func131, Tryd.ntmps131
  go_wp2_with fail
  refine (cByte_f lays_p B b v _ c _ h (by omega) hBw).mono ?_
  rintro e w1 ⟨rfl, v1, q1, hw1⟩
  go_wp2_with fail
  refine (cByte_f lays_p B b v1 _ 32 _ q1 (by rw [List.length_append]; simp; omega) (Nat.le_trans hBw hw1.size)).mono ?_
  rintro e w2 ⟨rfl, v2, q2, hw2⟩
  have hw12 := hw1.trans hw2
  have q2d : Bld 97 5 B b v2 _ w2.drew := Bld.kept q2 ((Below.refl _ w2).drew).block
  have hwd : Wr B b v v2 w w2.drew := hw12.trans (Wr.low ((Below.refl _ w2).drew) (by have := hw12.size; omega))
  have hszd : B ≤ w2.drew.heap.size := Nat.le_trans hBw hwd.size
  clear q1 q2 hw1 hw2 hw12 h
  go_upto_region 2 with fail
  refine wp_region_noPanic ?_
  refine wp_region_held_drew (S := fun _ => True) (by kernel_rfl) trivial (fun hHeld => ?_)
  generalize w2.drew = wd at q2d hwd hszd ⊢
  refine go_take 0 15 _ (.pointer (some ⟨b, 0, none⟩)) rfl (by kernel_rfl) (by kernel_rfl) (by kernel_rfl) (by kernel_rfl) (fun _ _ _ h => h) (Or.inl ⟨by kernel_rfl, fun u hu => by kernel_rfl⟩) hHeld ?_
  simp only [Act.put, List.setIfInBounds_toArray, List.set_cons_zero, List.set_cons_succ]
  refine go_take 1 16 _ (.pointer (some ⟨b, 0, none⟩)) rfl (by kernel_rfl) (by kernel_rfl) (by kernel_rfl) (by kernel_rfl) (fun _ _ _ h => h) (Or.inl ⟨by kernel_rfl, fun u hu => by kernel_rfl⟩) hHeld ?_
  simp only [Act.put, List.setIfInBounds_toArray, List.set_cons_zero, List.set_cons_succ]
  refine go_take 2 17 _ (.pointer (some ⟨b, 0, none⟩)) rfl (by kernel_rfl) (by kernel_rfl) (by kernel_rfl) (by kernel_rfl) (fun _ _ _ h => h) (Or.inl ⟨by kernel_rfl, fun u hu => by kernel_rfl⟩) hHeld ?_
  simp only [Act.put, List.setIfInBounds_toArray, List.set_cons_zero, List.set_cons_succ]
  refine go_take 3 18 _ (.string ⟨s.toArray⟩) rfl (by kernel_rfl) (by kernel_rfl) (by kernel_rfl) (by kernel_rfl) (fun _ _ _ h => h) (Or.inl ⟨by kernel_rfl, fun u hu => by kernel_rfl⟩) hHeld ?_
  simp only [Act.put, List.setIfInBounds_toArray, List.set_cons_zero, List.set_cons_succ]
  refine go_callE 4 19 _ rfl (by kernel_rfl) (by kernel_rfl) (by kernel_rfl) 72 (.func 72) #[.tmp 18] #[9] (by kernel_rfl) #[] (by kernel_rfl) #[.string ⟨s.toArray⟩] (by kernel_rfl) (enters_of Tryd.func72 (by kernel_rfl) rfl) (fun v3 w3 => v3 = .string ⟨T.toArray⟩ ∧ w3 = wd) ?_ ?_
  · refine (pline_f s wd hs T HT).mono ?_
    rintro e w3 ⟨rfl, rfl⟩
    exact ⟨_, rfl, trivial, rfl, rfl⟩
  rintro _ w3 _ ⟨rfl, rfl⟩
  simp only [Act.put, List.setIfInBounds_toArray, List.set_cons_zero, List.set_cons_succ]
  refine go_callE 5 20 _ rfl (by kernel_rfl) (by kernel_rfl) (by kernel_rfl) 28 (.func 28) #[.tmp 17, .tmp 19] #[61, 9] (by kernel_rfl) #[] (by kernel_rfl) #[.pointer (some ⟨b, 0, none⟩), .string ⟨T.toArray⟩] (by kernel_rfl) (enters_of Tryd.func28 (by kernel_rfl) rfl) (fun _ w4 => ∃ v', Pg B b v' Z w4 ∧ Wr B b v v' w w4) ?_ ?_
  · refine (cStr_f lays_p B b v2 _ T _ q2d (by rw [List.length_append, List.length_append]; simp; omega) hszd).mono ?_
    rintro e w4 ⟨rfl, v4, q4, hw4⟩
    exact ⟨_, rfl, trivial, v4, by unfold Pg; rw [← hA.out]; exact q4, hwd.trans hw4⟩
  rintro _ w4 _ ⟨v4, q4, hw4⟩
  simp only [Act.put, List.setIfInBounds_toArray, List.set_cons_zero, List.set_cons_succ]
  refine wpAnyH_done (by kernel_rfl) ?_ _
  refine NoPanic.normal ?_
  go_wp2
  first
    | go_end0
    | refine bodyPost_ret (results_none rfl _ _ _) rfl ?_
    | refine bodyPost_end (results_none rfl _ _ _) rfl ?_
  exact ⟨rfl, v4, q4, hw4⟩
set_option maxHeartbeats 1000000 in
theorem crange_f (A N : Int) (h0 : 0 ≤ A) (h1 : A ≤ 4611686018427387904) (h2 : 0 ≤ N) (h3 : N ≤ 4611686018427387900) (w : World) (HT : Hid (Tab10 w)) (T : List UInt8) (HR : Hid (spanT A N = T)) :
    Calls Tryd.prog 95 #[.int .i64 A, .int .i64 N] w fun e w' => e = .returned (.string ⟨T.toArray⟩) ∧ Below w.heap.size w w' := by
  have l1 := itoa_short A (by omega) (by omega)
  have l2 := itoa_short (A + N - 1) (by omega) (by omega)
  by_cases hN : N ≤ 1
  · have HE1 : Hid (Lib.itoa A = T) := (by have h := HR.out; unfold spanT at h; rw [if_pos hN] at h; exact h)
    clear HR
    go_enter Tryd.func95, Tryd.ntmps95
    go_wp2_with fail
    refine (nText_f A (by omega) (by omega) _ HT).mono ?_
    rintro e w1 ⟨rfl, hb1⟩
    go_wp2
    go_ret
    exact ⟨by rw [← HE1.out]; rfl, hb1⟩
  · have HE : Hid (Lib.itoa A ++ 44 :: Lib.itoa (A + N - 1) = T) := (by have h := HR.out; unfold spanT at h; rw [if_neg hN] at h; exact h)
    clear HR
    have q1 := add_fits (x := Lib.itoa A) (y := [44]) (by unfold Fits; simp only [List.length_cons, List.length_nil]; omega) Tryd.prog
    have q2 := add_fits (x := Lib.itoa A ++ [44]) (y := Lib.itoa (A + N - 1)) (by unfold Fits; simp only [List.length_append, List.length_cons, List.length_nil]; omega) Tryd.prog
    go_enter Tryd.func95, Tryd.ntmps95
    go_wp2_with fail
    refine (nText_f A (by omega) (by omega) _ HT).mono ?_
    rintro e w1 ⟨rfl, hb1⟩
    have HT1 : Hid (Tab10 w1) := HT.out.on hb1
    go_wp2_with fail
    refine (nText_f (A + N - 1) (by omega) (by omega) _ HT1).mono ?_
    rintro e w2 ⟨rfl, hb2⟩
    go_wp2
    go_ret
    exact ⟨by rw [← HE.out]; rfl, hb1.trans (hb2.mono hb1.size)⟩
end Go.Proofs.YtgiojkhmkeocfaaDoor

/- The code's shownSigns of layer 15, walked. -/
namespace Go.Proofs.YtgiojkhmkeocfaaDoor
open Go.RowKit

def ucells (l : List Int) : List Value := l.map fun n => .int .u8 n
theorem ucells_length (l : List Int) : (ucells l).length = l.length := by simp [ucells]
theorem ucells_append (a b : List Int) : ucells (a ++ b) = ucells a ++ ucells b := by simp [ucells]
theorem ucells_one (l : List Int) : ∀ u ∈ ucells l, u.oneCell' = true := by
  intro u hu
  simp only [ucells, List.mem_map] at hu
  obtain ⟨n, _, rfl⟩ := hu
  rfl
theorem infoU : (Tryd.prog.info? 5).map (fun i => (i.zero, i.size, i.bytes)) = some (some (.int .u8 0), 1, 1) := by kernel_rfl
theorem u_row (w : World) (c : Int) : Holds (w.alloc (.cells #[.int .u8 c] 5)) (.slice (some ⟨w.heap.size, 0, none⟩) 1 1) 1 (ucells [c]) := new_holds w #[.int .u8 c] 5 1 1 (by decide)
def lenW : Value → Nat
  | .slice _ n _ => n
  | _ => 0
theorem mix_len (c : List Mk) : (mixM c).length = c.length := by simp [mixM]
theorem mix_at (c : List Mk) (mx : Bool) (HM : (hasM 45 c && hasM 43 c) = mx) (k : Nat) (hk : k < c.length) : (mixM c).drop k = (if mx = true then 33 else c[k].sg) :: (mixM c).drop (k + 1) := by
  have hl : k < (mixM c).length := by rw [mix_len]; exact hk
  rw [List.drop_eq_getElem_cons hl]
  congr 1
  simp only [mixM, List.getElem_map, HM]
set_option maxHeartbeats 8000000 in
set_option maxRecDepth 10000 in
theorem cshown_f (l : List Mk) (v : Value) (w : World) (hv : HMk w v l) (hl : l.length ≤ 1099511627776) (R : List Int) (HR : Hid (shwL false false l = R)) :
    Calls Tryd.prog 94 #[v] w fun e w' => ∃ v', e = .returned v' ∧ w'.ownsRow w.heap.size 5 1 v' R.length (ucells R) ∧ Below w.heap.size w w' := by
  obtain ⟨lo, lc, rfl⟩ := HMk.form hv
  have hnc := mhold_cap hv
  have HR0 : Hid (([] : List Int) ++ shwL false false (l.drop 0) = R) := (by show _ = _; simp only [List.nil_append, List.drop_zero]; exact HR.out)
  have hown0 : w.ownsRow w.heap.size 5 1 (.slice none 0 0) 0 (ucells []) := hnil_row _ _ _ _
  clear HR
  go_enter Tryd.func94, Tryd.ntmps94
  go_wp2
  go_loopw [3] (fun sv wr => ∃ (acc : List Int) (N : Nat), N ≤ l.length ∧ (∃ o c, sv = .slice o N c) ∧ wr.ownsRow w.heap.size 5 1 sv N (ucells acc) ∧ Below w.heap.size w wr ∧ Hid (acc.length = N) ∧ Hid (acc ++ shwL false false (l.drop N) = R)) (fun sv _ => l.length - lenW sv)
  case atStart => exact ⟨[], 0, Nat.zero_le _, ⟨none, 0, rfl⟩, hown0, Below.refl _ _, rfl, HR0⟩
  case round =>
  obtain ⟨acc, N, hN, ⟨o, c, rfl⟩, hown, hB, HLn, HI⟩ := hrel
  clear HR0 hown0
  by_cases hlt : N < l.length
  · have hsub := mk_from hv N hN
    have hs := run_mF lo l.length lc N hN hnc
    have HST := HI.out
    rw [shw_step] at HST
    have hll : (l.drop N).length = l.length - N := List.length_drop
    obtain ⟨D, hD⟩ : ∃ D, l.drop N = D := ⟨_, rfl⟩
    have HDr : Hid (l.drop N = D) := hD
    rw [hD] at hll hsub HST
    rw [← hll] at hsub hs
    clear hD HI
    generalize mslF lo lc N = ao2 at hs hsub
    generalize lc - N = c2 at hs hsub
    obtain ⟨n, hn⟩ : ∃ n, (chgM D).length = n := ⟨_, rfl⟩
    have hnD : n ≤ D.length := (by rw [← hn]; exact chg_le D)
    have hp := cpiece_f D ao2 c2 wr (hsub.keep hB (Nat.le_refl _)) (by omega) n hn
    have hto := mk_to hsub n hnD
    have hct : D.take n = chgM D := (by rw [← hn]; exact chg_take D)
    rw [hct] at hto
    obtain ⟨T, hT⟩ : ∃ T, tlM (rstM D) = T := ⟨_, rfl⟩
    rw [hT] at HST
    have HTl : Hid ((n = D.length ∧ T = []) ∨ (n < D.length ∧ T = 32 :: shwL false false (l.drop (N + n + 1)))) := (by
      have h1 := congrArg List.length (chg_rstM D)
      rw [List.length_append, hn] at h1
      cases hr : rstM D with
      | nil =>
        rw [hr] at hT h1
        exact .inl ⟨by simpa using h1, hT.symm⟩
      | cons x t =>
        rw [hr] at hT h1
        refine .inr ⟨by simp at h1; omega, ?_⟩
        rw [← hT]
        have h2 : l.drop (N + n + 1) = t := (by
          rw [← List.drop_drop, ← List.drop_drop, HDr.out]
          have h3 := chg_rstM D
          rw [hr] at h3
          have h4 : D.drop n = x :: t := (by rw [← h3, ← hn, List.drop_left])
          rw [h4]
          rfl)
        rw [h2]
        rfl)
    have HS : Hid (acc ++ (mixM (chgM D) ++ T) = R) := HST
    have hhas := fun k u hu r HR => chas_f k (chgM D) (.slice ao2 n c2) u ((hto.keep hB (Nat.le_refl _)).keep hu (Nat.le_refl _)) (by rw [hn]; omega) r HR
    obtain ⟨mx, hmx⟩ : ∃ b, (hasM 45 (chgM D) && hasM 43 (chgM D)) = b := ⟨_, rfl⟩
    have HMX : Hid ((hasM 45 (chgM D) && hasM 43 (chgM D)) = mx) := hmx
    have h45 := fun u hu => hhas 45 u hu _ rfl
    have h43 := fun u hu => hhas 43 u hu _ rfl
    have HCn : Hid ((chgM D).length = n) := hn
    have HDl : Hid (D.length = l.length - N) := hll
    have hn2 : n ≤ 1099511627776 := by omega
    clear HST hT hsub hct hhas hn HDr hll hmx
    generalize chgM D = C at hto HS h45 h43 HMX HCn
    go_wp2_with fail
    refine hp.mono ?_
    rintro e w1 ⟨rfl, hB1⟩
    go_upto_region 4 with fail
    go_cut [5] from 9 to 46 (fun mv wz => mv = .bool mx ∧ Below wr.heap.size wr wz)
    case first =>
      cases h1 : hasM 45 C with
      | true =>
        rw [h1] at h45
        go_wp2_with fail
        refine (h45 w1 hB1).mono ?_
        rintro e w2 ⟨rfl, hB2⟩
        have hB12 := hB1.trans (hB2.mono hB1.size)
        have HE : Hid (hasM 43 C = mx) := (by have h := HMX.out; rw [h1, Bool.true_and] at h; exact h)
        go_wp2_with fail
        refine (h43 w2 hB12).mono ?_
        rintro e w3 ⟨rfl, hB3⟩
        go_wp2
        go_meet
        case rel => exact ⟨by rw [HE.out], hB12.trans (hB3.mono hB12.size)⟩
      | false =>
        rw [h1] at h45
        have HE : Hid (false = mx) := (by have h := HMX.out; rw [h1, Bool.false_and] at h; exact h)
        go_wp2_with fail
        refine (h45 w1 hB1).mono ?_
        rintro e w2 ⟨rfl, hB2⟩
        go_wp2
        go_meet
        case rel => exact ⟨by rw [HE.out], hB1.trans (hB2.mono hB1.size)⟩
    case rest =>
    obtain ⟨rfl, hBc⟩ := hcut
    clear hp h45 h43 hs hB1
    have hown2 : wc.ownsRow w.heap.size 5 1 (.slice o N c) N (ucells acc) := owns_keep hown hBc
    have hB2 := hB.trans (hBc.mono hB.size)
    clear hown hB hBc
    generalize wc = W2 at hown2 hB2 ⊢
    have HS0 : Hid (acc ++ ((mixM C).drop 0 ++ T) = R) := (by show _ = _; rw [List.drop_zero]; exact HS.out)
    have HL0 : Hid (acc.length = N ∧ N = N + 0) := ⟨HLn.out, rfl⟩
    clear HS HLn
    go_wp2
    go_loopw [3, 27] (fun sv i wr => ∃ (k : Nat) (ac : List Int) (N2 : Nat), k ≤ n ∧ i = .int .i64 k ∧ N2 ≤ l.length ∧ (∃ o c, sv = .slice o N2 c) ∧ wr.ownsRow w.heap.size 5 1 sv N2 (ucells ac) ∧ Below w.heap.size w wr ∧ Hid (ac.length = N2 ∧ N2 = N + k) ∧ Hid (ac ++ ((mixM C).drop k ++ T) = R)) (fun _ i _ => n - (intOf i).toNat)
    case atStart => exact ⟨0, acc, N, Nat.zero_le _, by go_num, hN, ⟨o, c, rfl⟩, hown2, hB2, HL0, HS0⟩
    case round =>
    clear HS0 HL0 hown2
    obtain ⟨k, ac, N2, hk, rfl, hN2, ⟨o2, c2', rfl⟩, hown3, hB3, HL3, HI3⟩ := hrel
    have hsz3 := hB3.size
    by_cases hkn : k < n
    · obtain ⟨bk, off, rfl, hbk, _⟩ := HMk.at hto (by have := HCn.out; omega)
      have hkC : k < C.length := (by have := HCn.out; omega)
      obtain ⟨m, hm⟩ : ∃ m, C[k] = m := ⟨_, rfl⟩
      obtain ⟨c0, c1⟩ := Low.mk hB3 hto k hkC hm
      have i1 : (0 : Int) ≤ (k : Int) := by omega
      have i2 : (k : Int) < (n : Int) := by omega
      obtain ⟨S, hS⟩ : ∃ S : Int, (if mx = true then 33 else m.sg) = S := ⟨_, rfl⟩
      have HI4 : Hid ((ac ++ [S]) ++ ((mixM C).drop (k + 1) ++ T) = R) := (by
        show _ = _
        have h := HI3.out
        rw [mix_at C _ HMX.out k hkC, hm, hS] at h
        rw [← h]
        simp)
      have HL4 : Hid ((ac ++ [S]).length = N2 + 1 ∧ N2 + 1 = N + (k + 1) ∧ N2 + 1 ≤ l.length ∧ k + 1 ≤ n) := ⟨by rw [List.length_append, HL3.out.1]; rfl, by have := HL3.out.2; omega, by have := HL3.out.2; have := HDl.out; omega, by omega⟩
      have hownM := hown3.alloc (.cells #[.int .u8 m.sg, .string ⟨m.tx.toArray⟩] 91)
      have hBM := hB3.alloc hB3.size (.cells #[.int .u8 m.sg, .string ⟨m.tx.toArray⟩] 91)
      have HS2 : Hid ((if mx = true then 33 else m.sg) = S) := hS
      clear HI3 HMX hto hS hown3 hB3
      go_upto_region 8 with fail
      go_cut [8] from 28 to 38 (fun sv wz => sv = .int .u8 m.sg ∧ wz = wr.alloc (.cells #[.int .u8 m.sg, .string ⟨m.tx.toArray⟩] 91))
      case first =>
        go_wp2
        go_meet
        case rel => exact ⟨rfl, rfl⟩
      case rest =>
      obtain ⟨rfl, rfl⟩ := hcut
      go_upto_if 33 with fail
      go_cut [8] from 28 to 38 (fun sv wz => sv = .int .u8 S ∧ wz = wr.alloc (.cells #[.int .u8 m.sg, .string ⟨m.tx.toArray⟩] 91))
      case first =>
        cases mx with
        | true =>
          have HE : Hid (33 = S) := (by have h := HS2.out; rw [if_pos rfl] at h; exact h)
          go_wp2
          go_meet
          case rel => exact ⟨by rw [HE.out], rfl⟩
        | false =>
          have HE : Hid (m.sg = S) := (by have h := HS2.out; rw [if_neg (by decide)] at h; exact h)
          go_wp2
          go_meet
          case rel => exact ⟨by rw [HE.out], rfl⟩
      case rest =>
      obtain ⟨rfl, rfl⟩ := hcut
      clear c0 c1 HS2
      generalize wr.alloc (.cells #[.int .u8 m.sg, .string ⟨m.tx.toArray⟩] 91) = Wm at hownM hBM ⊢
      have hszM : w.heap.size ≤ Wm.heap.size := hBM.size
      have hrow := u_row Wm S
      have hownA := hownM.alloc (.cells #[.int .u8 S] 5)
      have hszA : Wm.heap.size ≤ (Wm.alloc (.cells #[.int .u8 S] 5)).heap.size := by simp
      go_wp2_with (at_builtin; refine wpList_append_w _ (by kernel_rfl) (.tmp 34) (.tmp 36) 59 5 (.int .u8 0) 1 1 rfl Tryd.underlying59 infoU rfl (by decide) (by decide) w.heap.size _ _ _ rfl hownA _ 1 (ucells [S]) rfl hrow (ucells_length _) (ucells_one _) (by omega) (by omega) ?_)
      intro v3 u3 hown4 hg4 _
      rw [← ucells_append] at hown4
      have hB4 : Below w.heap.size w u3 := ((hBM.alloc hBM.size _).grown hg4 (hBM.alloc hBM.size _).size (fun j hj => owns_ge hownA hj))
      obtain ⟨o4, c4, rfl⟩ := (holds_of hown4).form
      clear hrow hownA hg4 hszA hownM hBM
      go_wp2
      exact ⟨⟨k + 1, _, N2 + 1, HL4.out.2.2.2, by go_num, HL4.out.2.2.1, ⟨o4, c4, rfl⟩, hown4, hB4, ⟨HL4.out.1, HL4.out.2.1⟩, HI4⟩, by have := HL4.out.2.2.2; simp [intOf]; omega⟩
    · have hend : decide ((k : Int) < (n : Int)) = false := decide_eq_false (by omega)
      have hkk : k = n := by omega
      subst hkk
      have HI4 : Hid (ac ++ T = R) := (by
        have h := HI3.out
        rw [List.drop_of_length_le (by rw [mix_len, HCn.out]; omega), List.nil_append] at h
        exact h)
      have HNk : Hid (N2 = N + k) := HL3.out.2
      have HAl : Hid (ac.length = N2) := HL3.out.1
      clear HI3 HL3 HMX hto
      by_cases hfull : k < D.length
      · have HT : Hid (T = 32 :: shwL false false (l.drop (N2 + 1))) := (by
          rcases HTl.out with h | h
          · omega
          · show _ = _
            rw [HNk.out]
            exact h.2)
        have j1 : (N2 : Int) < (l.length : Int) := (by have := HNk.out; have := HDl.out; omega)
        have HI5 : Hid ((ac ++ [32]) ++ shwL false false (l.drop (N2 + 1)) = R) := (by
          show _ = _
          rw [← HI4.out, HT.out]
          simp)
        have HL5 : Hid ((ac ++ [(32 : Int)]).length = N2 + 1) := (by show _ = _; rw [List.length_append, HAl.out]; rfl)
        have hdec : l.length - (N2 + 1) < l.length - N := (by have := HNk.out; omega)
        have hownM := hown3
        have hBM := hB3
        clear HI4 HT HTl
        have hszA : (wr).heap.size ≤ ((wr).alloc (.cells #[.int .u8 (32)] 5)).heap.size := by simp
        have hrow := u_row (wr) (32)
        have hownA := hownM.alloc (.cells #[.int .u8 (32)] 5)
        go_wp2_with (at_builtin; refine wpList_append_w _ (by kernel_rfl) (.tmp 44) (.tmp 45) 59 5 (.int .u8 0) 1 1 rfl Tryd.underlying59 infoU rfl (by decide) (by decide) w.heap.size _ _ _ rfl hownA _ 1 (ucells [32]) rfl hrow (ucells_length _) (ucells_one _) (by omega) (by omega) ?_)
        intro v3 u3 hown4 hg4 _
        rw [← ucells_append] at hown4
        have hB4 : Below w.heap.size w u3 := ((hBM.alloc hBM.size _).grown hg4 (hBM.alloc hBM.size _).size (fun j hj => owns_ge hownA hj))
        obtain ⟨o4, c4, rfl⟩ := (holds_of hown4).form
        clear hrow hownA hg4 hszA
        go_wp2
        exact ⟨⟨_, N2 + 1, by omega, ⟨o4, c4, rfl⟩, hown4, hB4, HL5, HI5⟩, hdec⟩
      · have HT : Hid (T = []) := (by
          rcases HTl.out with h | h
          · exact h.2
          · omega)
        have j1 : ¬ (N2 : Int) < (l.length : Int) := (by have := HNk.out; have := HDl.out; omega)
        have HI5 : Hid (ac ++ shwL false false (l.drop N2) = R) := (by
          show _ = _
          rw [← HI4.out, HT.out, List.drop_of_length_le (by omega)]
          rfl)
        have hdec : l.length - N2 < l.length - N := (by have := HNk.out; have := HDl.out; omega)
        clear HI4 HT HTl
        go_wp2
        exact ⟨⟨ac, N2, hN2, ⟨o2, c2', rfl⟩, hown3, hB3, HAl, HI5⟩, hdec⟩
  · have hend : ¬ (N : Int) < (l.length : Int) := by omega
    have HE : Hid (acc = R ∧ R.length = N) := (by
      have h := HI.out
      rw [List.drop_of_length_le (by omega)] at h
      have h2 : acc = R := (by rw [← h]; simp [shwL])
      exact ⟨h2, by rw [← h2]; exact HLn.out⟩)
    clear HI HLn
    go_wp2
    go_ret
    obtain ⟨h1, h2⟩ := HE.out
    subst h1
    exact ⟨_, rfl, by rw [h2]; exact hown, hB⟩
end Go.Proofs.YtgiojkhmkeocfaaDoor

/- The code's laid of layer 15, walked: old and new lines are laid into one list by a closure. -/
namespace Go.Proofs.YtgiojkhmkeocfaaDoor
open Go.RowKit

/-- a list in a box that grows -/
structure Ly (W : World) (X : Nat) (lv : Value) (acc : List Mk) (u : World) : Prop where
  low : Below W.heap.size W u
  box : u.heap[X]? = some (.cells #[lv] 41)
  own : u.ownsRow W.heap.size 91 2 lv acc.length (mkcells acc)
  ge : W.heap.size ≤ X
section
variable {W u u' : World} {X : Nat} {lv : Value} {acc : List Mk}
theorem Ly.keep (h : Ly W X lv acc u) (hb : Below u.heap.size u u') : Ly W X lv acc u' := ⟨h.low.trans (hb.mono h.low.size), (hb.block X (Array.getElem?_eq_some_iff.1 h.box).1).trans h.box, owns_keep h.own hb, h.ge⟩
theorem Ly.cell (h : Ly W X lv acc u) : u.cell? ⟨X, 0, none⟩ = some lv := by rw [Lib.cell_of_heap h.box]; rfl
theorem Ly.frozen (h : Ly W X lv acc u) : u.frozen? ⟨X, 0, none⟩ = false := Lib.frozen_of_heap h.box 0
theorem own_box2 {B : Nat} {e t : TypeId} {s : Nat} {v : Value} {n k : Nat} {xs : List Value} {cs : Array Value} {fr : Nat × Nat} (h : u.ownsRow B e s v n xs) (hb : u.heap[k]? = some (.cells cs t fr)) (he : e ≠ t) : v.ownBlock ≠ some k := by
  intro hg
  rcases h.2 with ⟨rfl, _⟩ | ⟨g, cap, cur, rfl, _, hg2, _⟩
  · cases hg
  · simp [Value.ownBlock] at hg
    subst hg
    rw [hb] at hg2
    simp at hg2
    exact he hg2.2.1.symm
/-- one line more -/
theorem Ly.more (h : Ly W X lv acc u) {m : Mk} {lv' : Value} {n : Nat} (hg : u.grownBy u' lv.ownBlock) (ho : u'.ownsRow W.heap.size 91 2 lv' n (mkcells (acc ++ [m]))) (hn : n = (acc ++ [m]).length) : Ly W X lv' (acc ++ [m]) (u'.setCell ⟨X, 0, none⟩ lv') ∧ u'.cell? ⟨X, 0, none⟩ = some lv ∧ u'.frozen? ⟨X, 0, none⟩ = false := by
  subst hn
  have hb : u'.heap[X]? = some (.cells #[lv] 41) := (hg.block X (Array.getElem?_eq_some_iff.1 h.box).1 (fun e => own_box2 h.own h.box (by decide) e.symm)).trans h.box
  have hlow : Below W.heap.size W u' := h.low.grown hg h.low.size (fun j hj => owns_ge h.own hj)
  refine ⟨⟨hlow.setCell h.ge _, heap_setCell_same u' X 0 _ _ lv' hb, ?_, h.ge⟩, by rw [Lib.cell_of_heap hb]; rfl, Lib.frozen_of_heap hb 0⟩
  have hg2 := grown_set u' X 0 lv'
  refine ⟨ho.1, ?_⟩
  rcases ho.2 with q | ⟨g, cap, cur, rfl, q2, q3, q4⟩
  · exact .inl q
  · refine .inr ⟨g, cap, cur, rfl, q2, ?_, q4⟩
    rw [hg2.block g (Array.getElem?_eq_some_iff.1 q3).1 (fun e => by
      cases e
      rw [hb] at q3
      simp at q3)]
    exact q3
end
theorem mk_ne (s t : List UInt8) (r : Bool) (h : (s != t) = r) (u : World) : (binOp .neq 91 (.agg #[.int .u8 32, .string ⟨s.toArray⟩]) (.agg #[.int .u8 32, .string ⟨t.toArray⟩])).run Tryd.prog u = .ok (.bool r) u := by
  have hst : Tryd.prog.underlying 91 = some (.struct (Tryd.prog.fieldsOf 91)) := by kernel_rfl
  have hsi : Tryd.prog.stoodInHeld 91 = false := by kernel_rfl
  have hff : (Tryd.prog.fieldsOf 91).toList = [⟨"Sign", 5, 0, false, "", "", 0⟩, ⟨"Text", 9, 1, false, "", "", 8⟩] := by kernel_rfl
  rw [run_neq_struct, run_equalIn_agg u 9999 _ _ _ hst hsi, hff]
  have p1 : ∀ (x y : Value) (u : World), (part 5 #[.int .u8 32, y] 0).run Tryd.prog u = .ok (.int .u8 32) u := fun _ _ _ => by kernel_rfl
  have p2 : ∀ (z : ByteArray) (u : World), (part 9 #[.int .u8 32, .string z] 1).run Tryd.prog u = .ok (.string z) u := fun _ _ => by kernel_rfl
  have q1 := run_equalIn_int (P := Tryd.prog) u 9998 5 .u8 .u8 32 32 Tryd.underlying5
  have q2 := run_equalIn_string (P := Tryd.prog) u 9998 9 ⟨s.toArray⟩ ⟨t.toArray⟩ Tryd.underlying9
  have e1 : (⟨s.toArray⟩ : ByteArray).toList = s := by rw [ByteArray.toList_eq]
  have e2 : (⟨t.toArray⟩ : ByteArray).toList = t := by rw [ByteArray.toList_eq]
  rw [e1, e2] at q2
  have n1 : ("Sign" : String) ≠ "_" := by decide
  have n2 : ("Text" : String) ≠ "_" := by decide
  simp only [Op.eqFields, n1, n2, ne_eq, not_false_eq_true, if_true, Sem.run_bind, p1 .nilIface, p2, q1, q2, Result.andThen_ok, Sem.run_ite]
  rw [← h]
  cases hst2 : (s == t) <;> simp [bne, hst2]
theorem rst_drop (l : List Mk) : l.drop (chgM l).length = rstM l := by
  have h := chg_rstM l
  have h2 : (chgM l ++ rstM l).drop (chgM l).length = rstM l := List.drop_left
  rw [h] at h2
  exact h2
theorem len_zero {l : List Mk} : ((l.length : Int) == 0) = decide (l = []) := by
  rw [Bool.eq_iff_iff, beq_iff_eq, decide_eq_true_eq]
  constructor
  · intro h; exact List.eq_nil_of_length_eq_zero (by omega)
  · rintro rfl; rfl
def thenJ (a : List Mk) (X : Option (List Mk)) : Option (List Mk) := X.map (a ++ ·)
/-- what laid answers -/
def LdQ (w : World) (X : Option (List Mk)) (e : Ending) (w' : World) : Prop := ∃ v r, e = .returned (.tuple #[v, .bool r]) ∧ Below w.heap.size w w' ∧ match X with
  | none => r = false
  | some l => r = true ∧ w'.ownsRow w.heap.size 91 2 v l.length (mkcells l)
theorem thenJ_none {a : List Mk} {X : Option (List Mk)} (h : X = none) : thenJ a X = none := by rw [h]; rfl
end Go.Proofs.YtgiojkhmkeocfaaDoor

/- The code's checkRanges of layer 15, walked. -/
namespace Go.Proofs.YtgiojkhmkeocfaaDoor
open Go.RowKit

/-- does a range say as many lines as there are? -/
def cntR (a b : Int) (n : Nat) : Bool := decide ((n : Int) = b - a + 1) || (decide ((n : Int) = 0) && decide (b - a + 1 = 1))
def rgX (r0 r1 z0 z1 : Bool) (x0 x1 : Int) : Option (Int × Int) :=
  if r0 = false then some (x0, 120) else if r1 = false then some (x1, 120) else if z0 = true then some (x0, 2) else if z1 = true then some (x1, 2) else none
def RgQ (w : World) (Y : Option (Int × Int)) (e : Ending) (w' : World) : Prop := Below w.heap.size w w' ∧ match Y with
  | none => e = .returned (.tuple #[])
  | some (a, z) => Thr a z e w'
theorem gtr_zero {n : Nat} : decide ((n : Int) > 0) = decide (0 < n) := by
  rw [Bool.eq_iff_iff, decide_eq_true_eq, decide_eq_true_eq]
  omega
theorem zero_eq (a : Int) : (a == 0) = decide (a = 0) := by
  rw [Bool.eq_iff_iff, beq_iff_eq, decide_eq_true_eq]
end Go.Proofs.YtgiojkhmkeocfaaDoor

/- The code's reader of layer 15, walked: a side's range and lines; what is known of them. -/
namespace Go.Proofs.YtgiojkhmkeocfaaDoor
open Go.RowKit

/-- a line with a range, as the code reads it -/
def rngC (e : UInt8) (p : Nat) (ls : List (List UInt8)) : Except (Nat × Int) ((Int × Int) × List (List UInt8)) :=
  match barP [e, e, e, 32] p ls with
  | .error x => .error x
  | .ok (s, r) => if Lib.hasSuffix s [32, e, e, e, e] = true then match nmC (s.take (s.length - 5)) with
    | none => .error (p + 1, 3)
    | some q => .ok (q, r) else .error (p + 1, 3)
theorem rng_bar (e : UInt8) (p : Nat) (ls : List (List UInt8)) : rngP e p ls = match rngC e p ls with
    | .error x => .error x
    | .ok (q, r) => .ok (sayC q, r) := by
  unfold rngP rngC barP
  cases nxt p ls with
  | error x => rfl
  | ok z =>
    obtain ⟨s, r⟩ := z
    dsimp only
    rw [inn_code]
    by_cases h1 : [e, e, e, 32].isPrefixOf s = true
    · rw [if_pos h1, if_pos h1]
      have e4 : ([e, e, e, 32] : List UInt8).length = 4 := rfl
      rw [e4]
      dsimp only
      by_cases h2 : Lib.hasSuffix (s.drop 4) [32, e, e, e, e] = true
      · rw [if_pos h2, if_pos h2]
        dsimp only
        rw [rng_code]
        cases nmC ((s.drop 4).take ((s.drop 4).length - 5)) <;> rfl
      · rw [if_neg h2, if_neg h2]
    · rw [if_neg h1, if_neg h1]
/-- a side with its range, as the code reads it -/
def sidX (e sg : UInt8) (p : Nat) (ls : List (List UInt8)) : Except (Nat × Int) ((Int × Int) × List Mk × Nat × List (List UInt8)) :=
  match rngC e p ls with
  | .error x => .error x
  | .ok (q, r) => match sdE sg (p + 1) r with
    | .error x => .error x
    | .ok (l, p1, r1) => .ok (q, l, p1, r1)
theorem rdC_stop {sg : UInt8} {p : Nat} {L : List (List UInt8)} (h : ∀ h : p < L.length, isSd sg L[p] = false) : rdC sg p (L.drop p) = .ok ([], p, L.drop p) := by
  by_cases hp : p < L.length
  · rw [List.drop_eq_getElem_cons hp]
    simp only [rdC]
    rw [if_neg (by rw [h hp]; decide)]
  · rw [List.drop_eq_nil_of_le (by omega)]
    simp only [rdC]
theorem rdC_go {sg : UInt8} {p : Nat} {L : List (List UInt8)} (hp : p < L.length) (h : isSd sg L[p] = true) (m : List Mk) : thenL m (rdC sg p (L.drop p)) = if fdB L[p] = true then thenL (m ++ [⟨((L[p].headD 0).toNat : Int), L[p].drop 2⟩]) (rdC sg (p + 1) (L.drop (p + 1))) else .error (p + 1, 3) := by
  rw [List.drop_eq_getElem_cons hp]
  simp only [rdC]
  rw [if_pos h]
  split
  · cases rdC sg (p + 1) (L.drop (p + 1)) with
    | error e => rfl
    | ok z => simp [thenL]
  · rfl
theorem nxt_at {p : Nat} {L : List (List UInt8)} (hp : p < L.length) : nxt p (L.drop p) = if fdB L[p] = true then .ok (L[p].dropLast, L.drop (p + 1)) else .error (p + 1, 3) := by
  rw [List.drop_eq_getElem_cons hp]
  rfl
/-- texts with their line feeds, none too long -/
def Fx (m : List Mk) : Prop := ∀ x ∈ m, fdB x.tx = true ∧ x.tx.length ≤ 1099511627776
theorem sd_form {sg : UInt8} {s : List UInt8} (h : isSd sg s = true) (hf : fdB s = true) : ∃ a b c t, s = a :: b :: c :: t ∧ fdB (c :: t) = true := by
  match s, h, hf with
  | [a, b], h, hf =>
    simp only [isSd, Bool.and_eq_true, beq_iff_eq] at h
    obtain ⟨_, rfl⟩ := h
    exact absurd hf (by simp [fdB])
  | a :: b :: c :: t, _, hf =>
    refine ⟨a, b, c, t, rfl, ?_⟩
    simpa [fdB] using hf

section
variable {w u u' : World} {R S : Nat} {vL v : Value} {x a b : Int} {m : List Mk} {p : Nat}
end
end Go.Proofs.YtgiojkhmkeocfaaDoor

/- The code's reader of layer 15, walked: a side. -/
namespace Go.Proofs.YtgiojkhmkeocfaaDoor
open Go.RowKit
attribute [local go_sem] ByteArray.extract_mk no_at

def ckN (u : World) (R : Nat) : Nat := match u.cell? ⟨R, 1, none⟩ with
  | some v => (intOf v).toNat
  | none => 0
theorem grown_base {w u : World} {R : Nat} (O : Obj) (h : (w.alloc O).grownBy u (some R)) : w.grownBy u (some R) := grown_two (World.grownBy_alloc w O _) h
theorem sid_err {e sg : UInt8} {p : Nat} {ls : List (List UInt8)} {x : Nat × Int} (h : rngC e p ls = .error x) : sidX e sg p ls = .error x := by
  unfold sidX
  rw [h]
theorem sid_ok {e sg : UInt8} {p : Nat} {ls r : List (List UInt8)} {q : Int × Int} (h : rngC e p ls = .ok (q, r)) : sidX e sg p ls = match rdC sg (p + 1) r with
    | .error x => .error x
    | .ok (l, p1, r1) => if (!l.isEmpty && endK l r1) = true then .ok (q, cutL l, p1 + 1, r1.tail) else .ok (q, l, p1, r1) := by
  unfold sidX
  rw [h]
  dsimp only
  unfold sdE
  cases rdC sg (p + 1) r with
  | error x => rfl
  | ok z =>
    obtain ⟨l, p1, r1⟩ := z
    dsimp only
    by_cases hb : (!l.isEmpty && endK l r1) = true
    · rw [if_pos hb, if_pos hb]
    · rw [if_neg hb, if_neg hb]
def four (u : World) (Q : Nat) (x a b : Int) (v : Value) : World := (((u.setCell ⟨Q, 0, none⟩ (.int .i64 x)).setCell ⟨Q, 1, none⟩ (.int .i64 a)).setCell ⟨Q, 2, none⟩ (.int .i64 b)).setCell ⟨Q, 3, none⟩ v
theorem end_last {m : List Mk} (h : m ≠ []) : ∃ m1 y, m = m1 ++ [y] := ⟨m.dropLast, m.getLast h, (List.dropLast_concat_getLast h).symm⟩
end Go.Proofs.YtgiojkhmkeocfaaDoor
