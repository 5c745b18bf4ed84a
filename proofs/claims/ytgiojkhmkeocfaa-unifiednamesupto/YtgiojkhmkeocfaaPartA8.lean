/-
  Texts that belong together, joined: CqQ, HuLn, CxR, CxP, CwC, CwD, NoLen, NoWs, NcW, PtL, NcL, CwE, CwF, CwG, HuC2, CwH, CwI, UpA, NoRd, NoPk, NoMk, NpE, NpM, NpF, NpG, NpH, NoPs, NpN, NpX, NpC.
-/
import Derived.Test.YtgiojkhmkeocfaaPartA7
import Derived.Test.YtgiojkhmkeocfaaPartA5
import Derived.Test.YtgiojkhmkeocfaaPartA4
import Derived.BigQuiet
import Derived.Test.YtgiojkhmkeocfaaPartA6
import Derived.Lib.IndexAny
import Derived.Laws.RangeAny
import Derived.Shelf.Strings.BuilderK
import Derived.Test.YtgiojkhmkeocfaaProg
import Derived.Lib.AppendIntMem
import Derived.Lib.FrozenHead2
import Derived.Deep.CutBlock
import Derived.Deep.RegionHeld3
import Derived.WalkLawsBesides
import Derived.Lib.OthersKept
import Derived.Deep.QuietTactic

/- num.Quote, walked: what it returns is the plain function 'quote' of the text. -/
namespace Go.Proofs.Ytgiojkhmkeocfaa
open Q Go.RowKit Go.Proofs.Ytgiojkhmkeocfaa

set_option maxHeartbeats 2000000 in
set_option maxRecDepth 100000 in
theorem Quote_any (l : List UInt8) (w : World) (hl : l.length ≤ 1099511627776) :
    Calls Try.prog 17 #[.string ⟨l.toArray⟩] w fun e w' => e = .returned (.string ⟨(quote l).toArray⟩) ∧ Below w.heap.size w w' := by
  go_enter Try.func17, Try.ntmps17
  go_wp2_with fail
  refine (WriteByte_any w.heap.size w.heap.size (.slice none 0 0) [] 34 _ (Bld.fresh 34 5 w) (by simp) (by simp)).mono ?_
  rintro e w1 ⟨rfl, v1, hB1, ha1, hf1, hb1⟩
  obtain ⟨cap, C, fz, w2, hcv, hR, hC, hb2, hlt2⟩ := conv_bytes (P := Try.prog) w1 9 32 5 l Try.underlying9 Try.underlying32 Try.underlying5
  have hB2 := hB1.kept (below_all hb2)
  have hRb : Beside w1.heap.size (.cells C 5 fz) w.heap.size v1 w2 := ⟨hR, by have := hB1.lt; omega, by
    intro e
    have := (hB1.2.2.1.lt _ e).2
    omega⟩
  have hbw : Below w.heap.size w w2 := (((Below.refl _ w).alloc (Nat.le_refl _) _).trans hb1).trans (hb2.mono (by have := hb1.size; simp at this; omega))
  generalize hRR : w1.heap.size = R at *
  have HR : Hid (w1.heap.size = R) := hRR
  clear hRR
  go_wp2
  go_loopw [10] (fun i wr => ∃ (k : Nat) (acc : List UInt8) (v : Value), k ≤ l.length ∧ i = .int .i64 k ∧ Bld 34 5 w.heap.size w.heap.size v (Lib.byteCells acc) wr ∧ Beside R (.cells C 5 fz) w.heap.size v wr ∧ Below w.heap.size w wr ∧ acc ++ qbody (l.drop k) = [34] ++ qbody l ∧ acc.length ≤ 3 * k + 1) (fun i _ => l.length - (intOf i).toNat)
  case atStart => exact ⟨0, [34], v1, Nat.zero_le _, rfl, hB2, hRb, hbw, rfl, by simp⟩
  case round =>
    obtain ⟨k, acc, v, hk, rfl, hB, hR', hbr, hacc, hal⟩ := hrel
    by_cases hlt : k < l.length
    · have hc := (hR'.cell k).trans (hC k hlt)
      have hdk : l.drop k = l[k] :: l.drop (k + 1) := List.drop_eq_getElem_cons hlt
      have HD : Hid (acc ++ (q1 l[k] ++ qbody (l.drop (k + 1))) = [34] ++ qbody l) := by
        rw [hdk] at hacc
        exact hacc
      clear hacc hdk
      generalize l[k] = x at *
      have hx : x.toNat < 256 := x.toNat_lt
      go_wp2_with fail
      refine (isPlain_any _ _).mono ?_
      rintro e w' ⟨rfl, rfl⟩
      cases hpl : plainI x.toNat
      · have HP : Hid (q1 x = [92, hexc (x.toNat / 16), hexc (x.toNat % 16)]) := by
          show q1 x = _
          simp [q1, hpl]
        go_wp2_with fail
        refine (WriteByte_any w.heap.size w.heap.size v _ 92 _ hB (by rw [Lib.byteCells_length]; omega) (by have := hbr.size; omega)).mono ?_
        rintro e w3 ⟨rfl, v3, hB3, ha3, hf3, hb3⟩
        go_wp2_with fail
        rw [hex_at]
        refine (WriteByte_any w.heap.size w.heap.size v3 _ _ _ hB3 (by simp [Lib.byteCells_length]; omega) (by have := hbr.size; have := hb3.size; omega)).mono ?_
        rintro e w4 ⟨rfl, v4, hB4, ha4, hf4, hb4⟩
        go_wp2_with fail
        rw [hex_at]
        refine (WriteByte_any w.heap.size w.heap.size v4 _ _ _ hB4 (by simp [Lib.byteCells_length]; omega) (by have := hbr.size; have := hb3.size; have := hb4.size; omega)).mono ?_
        rintro e w5 ⟨rfl, v5, hB5, ha5, hf5, hb5⟩
        go_wp2
        go_roundw
        case rel =>
          refine ⟨k + 1, acc ++ [92, hexc (x.toNat / 16), hexc (x.toNat % 16)], v5, by omega, by go_num, ?_, ((hR'.step ha3 hf3).step ha4 hf4).step ha5 hf5, ((hbr.trans hb3).trans hb4).trans hb5, by rw [← HD.out, HP.out]; simp, by simp; omega⟩
          have e : Lib.byteCells (acc ++ [92, hexc (x.toNat / 16), hexc (x.toNat % 16)]) = Lib.byteCells acc ++ [.int .u8 92] ++ [.int .u8 (hexc (x.toNat / 16)).toNat] ++ [.int .u8 (hexc (x.toNat % 16)).toNat] := by
            rw [Lib.byteCells_append]; simp [Lib.byteCells]
          rw [e]
          exact hB5
        case measure => simp [intOf]; omega
      · have HP : Hid (q1 x = [x]) := by
          show q1 x = _
          simp [q1, hpl]
        go_wp2_with fail
        refine (WriteByte_any w.heap.size w.heap.size v _ _ _ hB (by rw [Lib.byteCells_length]; omega) (by have := hbr.size; omega)).mono ?_
        rintro e w3 ⟨rfl, v3, hB3, ha3, hf3, hb3⟩
        go_wp2
        go_roundw
        case rel => exact ⟨k + 1, acc ++ [x], v3, by omega, by go_num, by rw [Lib.byteCells_append]; exact hB3, hR'.step ha3 hf3, hbr.trans hb3, by rw [← HD.out, HP.out]; simp, by simp; omega⟩
        case measure => simp [intOf]; omega
    · have HD : Hid (acc = [34] ++ qbody l) := by
        have e : l.drop k = [] := List.drop_eq_nil_of_le (by omega)
        rw [e] at hacc
        show acc = _
        simpa [qbody] using hacc
      clear hacc
      go_wp2_with fail
      refine (WriteByte_any w.heap.size w.heap.size v _ 34 _ hB (by rw [Lib.byteCells_length]; omega) (by have := hbr.size; omega)).mono ?_
      rintro e w3 ⟨rfl, v3, hB3, ha3, hf3, hb3⟩
      go_wp2_with fail
      have hB4 : Bld 34 5 w.heap.size w.heap.size v3 (Lib.byteCells (acc ++ [34])) w3 := by rw [Lib.byteCells_append]; exact hB3
      refine (Try.Builder_String_any_k w.heap.size w.heap.size _ _ hB4.isF (by have := hbr.size; have := hb3.size; omega)).mono ?_
      rintro e w4 ⟨rfl, _, hb4, _⟩
      go_wp2
      go_ret
      rw [HD.out]
      exact ⟨rfl, (hbr.trans hb3).trans hb4⟩
end Go.Proofs.Ytgiojkhmkeocfaa

/- Check of layer lines, walked at rows of texts; slices.ContainsFunc, walked at lines with signs. -/
namespace Go.Proofs.Ytgiojkhmkeocfaa
open Ln Go.RowKit

/-- slices.IndexFunc, slices.ContainsFunc: the function may lay blocks -/
theorem idx_any {l : List Mk} {p : Mk → Bool} {k : Nat} (hk : k < l.length) : (l.drop k).any p = (p l[k] || (l.drop (k + 1)).any p) := by
  rw [List.drop_eq_getElem_cons hk, List.any_cons]
end Go.Proofs.Ytgiojkhmkeocfaa

/- The context form: a side's lines one by one, by what lies ahead of a place and behind it (the reference's way); plain mathematics. -/
namespace Go.Proofs.Ytgiojkhmkeocfaa

/-- does the piece that ends a list have a sign? -/
def endS (sg : Int) (P : List Mk) : Bool := anyS sg P.reverse
theorem ends_snoc (sg : Int) (P : List Mk) (m : Mk) : endS sg (P ++ [m]) = if m.sg = 32 then false else endS sg P || decide (m.sg = sg) := by
  unfold endS
  rw [List.reverse_append]
  simp only [List.reverse_cons, List.reverse_nil, List.nil_append, List.cons_append, anyS]
  split
  · rfl
  · exact Bool.or_comm _ _
/-- does the piece around a place have both signs? -/
def bothM (P S : List Mk) : Bool := (endS 45 P || anyS 45 S) && (endS 43 P || anyS 43 S)
/-- what a line makes of a side -/
def lineS (sg : Int) (P : List Mk) (m : Mk) (S : List Mk) : List (List UInt8) := if m.sg = 32 then lnL [32, 32] m.tx else if m.sg = sg then lnL (if bothM P (m :: S) = true then [33, 32] else [UInt8.ofNat sg.toNat, 32]) m.tx else []
/-- a side from a place on -/
def fromS (sg : Int) (P S : List Mk) : List (List UInt8) := sidL sg (endS 45 P) (endS 43 P) S
theorem from_cons (sg : Int) (P : List Mk) (m : Mk) (S : List Mk) : fromS sg P (m :: S) = lineS sg P m S ++ fromS sg (P ++ [m]) S := by
  unfold fromS lineS
  simp only [sidL, ends_snoc]
  by_cases h : m.sg = 32
  · rw [if_pos h, if_pos h, if_pos h, if_pos h]
  · rw [if_neg h, if_neg h, if_neg h, if_neg h]
    by_cases h2 : m.sg = sg
    · rw [if_pos h2, if_pos h2]
      rfl
    · rw [if_neg h2, if_neg h2]
      rfl
theorem from_all (sg : Int) (l : List Mk) : fromS sg [] l = sidL sg false false l := rfl
end Go.Proofs.Ytgiojkhmkeocfaa

/- The context form: the signs with which the code shows lines; plain mathematics. -/
namespace Go.Proofs.Ytgiojkhmkeocfaa
open Ln

def chgM (l : List Mk) : List Mk := l.takeWhile fun m => m.sg != 32
def rstM (l : List Mk) : List Mk := l.dropWhile fun m => m.sg != 32
/- signs that are shown -/
def shwL : Bool → Bool → List Mk → List Int
  | _, _, [] => []
  | r, a, m :: l => if m.sg = 32 then 32 :: shwL false false l else (if ((r || anyS 45 (m :: l)) && (a || anyS 43 (m :: l))) = true then 33 else m.sg) :: shwL (r || decide (m.sg = 45)) (a || decide (m.sg = 43)) l
theorem shw_len (l : List Mk) : ∀ r a, (shwL r a l).length = l.length := by
  induction l with
  | nil => intro r a; rfl
  | cons m l ih =>
    intro r a
    simp only [shwL]
    split <;> simp [ih]
/-- the lines of a side behind given signs -/
def sidZ (sg : Int) : List Mk → List Int → List (List UInt8)
  | m :: l, c :: sh => (if m.sg = 32 ∨ m.sg = sg then lnL [UInt8.ofNat c.toNat, 32] m.tx else []) ++ sidZ sg l sh
  | _, _ => []
theorem sid_shw (sg : Int) (l : List Mk) : ∀ r a, sidZ sg l (shwL r a l) = sidL sg r a l := by
  induction l with
  | nil => intro r a; rfl
  | cons m l ih =>
    intro r a
    simp only [shwL, sidL]
    by_cases h : m.sg = 32
    · rw [if_pos h, if_pos h]
      simp only [sidZ]
      rw [if_pos (.inl h), ih]
      rfl
    · rw [if_neg h, if_neg h]
      simp only [sidZ]
      rw [ih]
      by_cases h2 : m.sg = sg
      · rw [if_pos (.inr h2), if_pos h2, h2]
        split <;> rfl
      · rw [if_neg (fun q => q.elim h h2), if_neg h2]
        rfl
def hasM (k : Int) (l : List Mk) : Bool := l.any fun m => m.sg == k
/-- a piece is shown with one sign for all, or its own ones -/
def mixM (c : List Mk) : List Int := c.map fun m => if (hasM 45 c && hasM 43 c) = true then 33 else m.sg
theorem anyS_chg (sg : Int) (l : List Mk) : anyS sg l = hasM sg (chgM l) := by
  induction l with
  | nil => rfl
  | cons m l ih =>
    simp only [anyS, chgM, List.takeWhile_cons]
    by_cases h : m.sg = 32
    · rw [if_pos h]
      have : (m.sg != 32) = false := by simp [h]
      rw [this]
      rfl
    · rw [if_neg h, ih]
      have : (m.sg != 32) = true := by simp [h]
      rw [this]
      simp only [hasM, if_true, List.any_cons, chgM]
      rfl
/-- what is shown behind a piece -/
def tlM : List Mk → List Int
  | [] => []
  | _ :: t => 32 :: shwL false false t
theorem shw_piece (l : List Mk) : ∀ r a, shwL r a l = (chgM l).map (fun m => if ((r || hasM 45 (chgM l)) && (a || hasM 43 (chgM l))) = true then 33 else m.sg) ++ tlM (rstM l) := by
  induction l with
  | nil => intro r a; rfl
  | cons m l ih =>
    intro r a
    by_cases h : m.sg = 32
    · have h1 : (m.sg != 32) = false := by simp [h]
      have e1 : chgM (m :: l) = [] := by simp only [chgM, List.takeWhile_cons, h1]; rfl
      have e2 : rstM (m :: l) = m :: l := by simp only [rstM, List.dropWhile_cons, h1]; rfl
      rw [e1, e2]
      simp only [shwL]
      rw [if_pos h]
      rfl
    · have h1 : (m.sg != 32) = true := by simp [h]
      have e1 : chgM (m :: l) = m :: chgM l := by simp only [chgM, List.takeWhile_cons, h1]; rfl
      have e2 : rstM (m :: l) = rstM l := by simp only [rstM, List.dropWhile_cons, h1]; rfl
      simp only [shwL]
      rw [if_neg h, anyS_chg 45, anyS_chg 43, ih, e1, e2]
      have q : ∀ k : Int, hasM k (m :: chgM l) = (decide (m.sg = k) || hasM k (chgM l)) := fun k => by
        simp only [hasM, List.any_cons]
        rfl
      rw [q, q]
      simp only [List.map_cons, List.cons_append, Bool.or_assoc]
theorem shw_step (l : List Mk) : shwL false false l = mixM (chgM l) ++ tlM (rstM l) := by
  rw [shw_piece]
  simp only [Bool.false_or]
  rfl
theorem chg_rstM (l : List Mk) : chgM l ++ rstM l = l := List.takeWhile_append_dropWhile
end Go.Proofs.Ytgiojkhmkeocfaa

/- slices.IndexFunc, slices.ContainsFunc for a function value that may hold a variable; the code's isKept, has, piece of layer 15, walked. -/
namespace Go.Proofs.Ytgiojkhmkeocfaa
open Ln Go.RowKit

/-- where the first one is, or -1 -/
def idxI (p : Mk → Bool) : Nat → List Mk → Int
  | _, [] => -1
  | k, m :: l => if p m = true then (k : Int) else idxI p (k + 1) l
theorem idxI_any (p : Mk → Bool) (l : List Mk) : ∀ k, decide (0 ≤ idxI p k l) = l.any p := by
  induction l with
  | nil => intro k; rfl
  | cons m l ih =>
    intro k
    rw [List.any_cons]
    by_cases h : p m = true
    · have e : idxI p k (m :: l) = (k : Int) := if_pos h
      rw [e, h]
      simp
    · have e : idxI p k (m :: l) = idxI p (k + 1) l := if_neg h
      rw [e, ih, Bool.eq_false_iff.2 h]
      rfl
theorem chgM_ne {m : Mk} {l : List Mk} (h : m.sg ≠ 32) : chgM (m :: l) = m :: chgM l ∧ rstM (m :: l) = rstM l := by
  have h1 : (m.sg != 32) = true := by simp [h]
  constructor
  · simp only [chgM, List.takeWhile_cons, h1]; rfl
  · simp only [rstM, List.dropWhile_cons, h1]; rfl
theorem chgM_eq {m : Mk} {l : List Mk} (h : m.sg = 32) : chgM (m :: l) = [] ∧ rstM (m :: l) = m :: l := by
  have h1 : (m.sg != 32) = false := by simp [h]
  constructor
  · simp only [chgM, List.takeWhile_cons, h1]; rfl
  · simp only [rstM, List.dropWhile_cons, h1]; rfl
theorem idxI_chg (l : List Mk) : ∀ k, idxI (fun m => m.sg == 32) k l = if rstM l = [] then -1 else (k : Int) + (chgM l).length := by
  induction l with
  | nil => intro k; rfl
  | cons m l ih =>
    intro k
    by_cases h : m.sg = 32
    · have e : idxI (fun m => m.sg == 32) k (m :: l) = (k : Int) := if_pos (by simp [h])
      rw [e, (chgM_eq h).1, (chgM_eq h).2, if_neg (by simp)]
      simp
    · have e : idxI (fun m => m.sg == 32) k (m :: l) = idxI (fun m => m.sg == 32) (k + 1) l := if_neg (by simp [h])
      rw [e, ih, (chgM_ne h).1, (chgM_ne h).2]
      by_cases hq : rstM l = []
      · rw [if_pos hq, if_pos hq]
      · rw [if_neg hq, if_neg hq]
        simp only [List.length_cons]; omega
theorem idxI_drop {p : Mk → Bool} {l : List Mk} {k : Nat} (hk : k < l.length) : idxI p k (l.drop k) = if p l[k] = true then (k : Int) else idxI p (k + 1) (l.drop (k + 1)) := by
  rw [List.drop_eq_getElem_cons hk]
  rfl
/-- the lines at the front that are not kept, as a slice of the same row -/
theorem chg_take (l : List Mk) : l.take (chgM l).length = chgM l := by
  have h := chg_rstM l
  have h2 : (chgM l ++ rstM l).take (chgM l).length = chgM l := List.take_left
  rw [h] at h2
  exact h2
theorem chg_le (l : List Mk) : (chgM l).length ≤ l.length := by
  have h := congrArg List.length (chg_rstM l)
  rw [List.length_append] at h
  omega
theorem rst_nil {l : List Mk} (h : rstM l = []) : chgM l = l := by
  have h1 := chg_rstM l
  rw [h, List.append_nil] at h1
  exact h1
/-- l[:k], l[k:] of a slice of lines with signs -/
def mslF (ao : Option Addr) (cap k : Nat) : Option Addr := if cap = k then ao else ao.map (·.add (k * 2))
theorem maddr_zero (ad : Addr) : ad.add 0 = ad := by unfold Addr.add; split <;> simp_all
theorem mhold_cap {w : World} {ao : Option Addr} {n c : Nat} {xs : List Value} (h : Holds w (.slice ao n c) n xs) : n ≤ c := by
  rcases h with ⟨h, h0, _⟩ | ⟨ad, c', h, h3, _⟩
  · omega
  · cases h; exact h3
theorem mkcells_take (l : List Mk) (k : Nat) : (mkcells l).take (k * 2) = mkcells (l.take k) := by
  induction k generalizing l with
  | zero => simp [mkcells]
  | succ k ih =>
    cases l with
    | nil => simp [mkcells]
    | cons m l =>
      have e : (k + 1) * 2 = k * 2 + 1 + 1 := by omega
      have h1 : mkcells (m :: l) = .int .u8 m.sg :: .string ⟨m.tx.toArray⟩ :: mkcells l := rfl
      have h2 : mkcells ((m :: l).take (k + 1)) = .int .u8 m.sg :: .string ⟨m.tx.toArray⟩ :: mkcells (l.take k) := rfl
      rw [e, h1, h2, List.take_succ_cons, List.take_succ_cons, ih]
theorem mkcells_drop (l : List Mk) (k : Nat) : (mkcells l).drop (k * 2) = mkcells (l.drop k) := by
  induction k generalizing l with
  | zero => simp
  | succ k ih =>
    cases l with
    | nil => simp [mkcells]
    | cons m l =>
      have e : (k + 1) * 2 = k * 2 + 1 + 1 := by omega
      have h1 : mkcells (m :: l) = .int .u8 m.sg :: .string ⟨m.tx.toArray⟩ :: mkcells l := rfl
      rw [e, h1, List.drop_succ_cons, List.drop_succ_cons, ih]
      rfl
theorem mk_to {w : World} {ao : Option Addr} {c : Nat} {l : List Mk} (h : HMk w (.slice ao l.length c) l) (k : Nat) (hk : k ≤ l.length) : HMk w (.slice ao k c) (l.take k) := by
  have hlt : (l.take k).length = k := by rw [List.length_take]; omega
  unfold HMk at h ⊢
  rw [hlt]
  rcases h with ⟨h, h0, h4⟩ | ⟨ad, c', h, h3, hc⟩
  · have hl0 : l = [] := List.eq_nil_of_length_eq_zero h0
    subst hl0
    cases h
    have hk0 : k = 0 := by simpa using hk
    subst hk0
    exact .inl ⟨by simp, rfl, by simp [mkcells]⟩
  · cases h
    refine .inr ⟨ad, c, rfl, by omega, fun j v hj => hc j v ?_⟩
    rw [← mkcells_take] at hj
    by_cases hjk : j < k * 2
    · rw [List.getElem?_take_of_lt hjk] at hj
      exact hj
    · rw [List.getElem?_eq_none (by simp; omega)] at hj
      cases hj
theorem mk_from {w : World} {ao : Option Addr} {c : Nat} {l : List Mk} (h : HMk w (.slice ao l.length c) l) (k : Nat) (hk : k ≤ l.length) : HMk w (.slice (mslF ao c k) (l.length - k) (c - k)) (l.drop k) := by
  have hlt : (l.drop k).length = l.length - k := by rw [List.length_drop]
  have hnc := mhold_cap h
  unfold HMk at h ⊢
  rw [hlt]
  rcases h with ⟨h, h0, h4⟩ | ⟨ad, c', h, h3, hc⟩
  · have hl0 : l = [] := List.eq_nil_of_length_eq_zero h0
    subst hl0
    cases h
    have hk0 : k = 0 := by simpa using hk
    subst hk0
    exact .inl ⟨by simp [mslF], rfl, by simp [mkcells]⟩
  · cases h
    refine .inr ⟨if c = k then ad else ad.add (k * 2), c - k, by unfold mslF; split <;> simp, by omega, fun j v hj => ?_⟩
    rw [← mkcells_drop, List.getElem?_drop] at hj
    have hlt2 := (List.getElem?_eq_some_iff.1 hj).1
    rw [mkcells_length] at hlt2
    rw [if_neg (by omega)]
    have h0 := hc 0 _ (List.getElem?_eq_getElem (by rw [mkcells_length]; omega))
    obtain ⟨b, off, rfl⟩ := addr_of h0
    have := hc _ _ hj
    rw [add_none] at this
    rw [add_none, add_none, Nat.add_assoc]
    exact this
end Go.Proofs.Ytgiojkhmkeocfaa

/- Names as the code writes them in a patch (layer 15), walked. -/
namespace Go.Proofs.Ytgiojkhmkeocfaa
open Go.RowKit
attribute [local go_sem] ByteArray.extract_mk

def oddI (r : Int) : Bool := decide (r < 33) || decide (126 < r) || decide (r = 34)
set_option maxHeartbeats 1000000 in
theorem cisOdd_f (r : Int) (w : World) (q : Bool) (HQ : Hid (oddI r = q)) : Calls Try.prog 16 #[.int .i32 r] w fun e w' => e = .returned (.bool q) ∧ w = w' := by
  by_cases h1 : r < 33
  · have HE : Hid (true = q) := (by show _ = _; rw [← HQ.out]; simp [oddI, h1])
    go_enter Try.func16, Try.ntmps16
    go_wp2
    go_ret
    exact ⟨by rw [← HE.out]; rfl, rfl⟩
  · by_cases h2 : 126 < r
    · have HE : Hid (true = q) := (by show _ = _; rw [← HQ.out]; simp [oddI, h2])
      go_enter Try.func16, Try.ntmps16
      go_wp2
      go_ret
      exact ⟨by rw [← HE.out]; rfl, rfl⟩
    · have HE : Hid ((r == 34) = q) := (by show _ = _; rw [← HQ.out]; simp only [oddI, h1, h2, decide_false, Bool.false_or]; rfl)
      go_enter Try.func16, Try.ntmps16
      go_wp2
      go_ret
      exact ⟨by rw [← HE.out]; rfl, rfl⟩
theorem odd_name (c : UInt8) : oddI (c.toNat : Int) = !nameC c := by
  unfold oddI nameC
  rw [Bool.eq_iff_iff]
  simp only [Bool.or_eq_true, decide_eq_true_eq, Bool.not_eq_true', decide_eq_false_iff_not]
  omega
/-- where the first odd byte is, or -1 -/
def oddW : Nat → List UInt8 → Int
  | _, [] => -1
  | k, c :: l => if nameC c = true then oddW (k + 1) l else (k : Int)
theorem oddW_all (l : List UInt8) : ∀ k, decide (0 ≤ oddW k l) = !l.all nameC := by
  induction l with
  | nil => intro k; rfl
  | cons c l ih =>
    intro k
    rw [List.all_cons]
    by_cases h : nameC c = true
    · have e : oddW k (c :: l) = oddW (k + 1) l := if_pos h
      rw [e, ih, h]
      rfl
    · have e : oddW k (c :: l) = (k : Int) := if_neg h
      rw [e, Bool.eq_false_iff.2 h]
      simp
theorem oddW_step {l : List UInt8} {k : Nat} (hk : k < l.length) : oddW k (l.drop k) = if nameC l[k] = true then oddW (k + 1) (l.drop (k + 1)) else (k : Int) := by
  rw [List.drop_eq_getElem_cons hk]
  rfl
set_option maxHeartbeats 4000000 in
set_option maxRecDepth 100000 in
theorem cindexFunc_f (l : List UInt8) (w : World) (_hl : l.length ≤ 1099511627776) (z : Int) (HZ : Hid (oddW 0 l = z)) :
    Calls Try.prog 29 #[.string ⟨l.toArray⟩, .func (.func 16) #[] #[], .bool true] w fun e w' => e = .returned (.int .i64 z) ∧ Below w.heap.size w w' := by
  go_enter Try.func29, Try.ntmps29
  go_wp2
  go_loopw [] (fun wr => ∃ pos : Nat, pos ≤ l.length ∧ wr.heap[w.heap.size]? = some (.stringIter ⟨l.toArray⟩ pos) ∧ Below w.heap.size w wr ∧ Hid (oddW pos (l.drop pos) = z)) (fun wr => l.length - wr.iterPos w.heap.size)
  case atStart => exact ⟨0, Nat.zero_le _, World.iter_heap w _ 0, (Below.refl _ w).alloc (Nat.le_refl _) _, HZ⟩
  case round =>
    obtain ⟨pos, hp, hit, hbr, HA⟩ := hrel
    have hwl : w.heap.size < wr.heap.size := (Array.getElem?_eq_some_iff.1 hit).1
    by_cases hlt : pos < l.length
    · have HS := HA.out
      rw [oddW_step hlt] at HS
      by_cases ha : l[pos].toNat < 128
      · have hnx : ∀ ty, (Instr.next (.pointer (some ⟨w.heap.size, 0, none⟩)) true ty).run Try.prog wr = _ := fun ty => Lib.run_next_ascii_at wr w.heap.size ⟨l.toArray⟩ pos ty hit hlt ha
        have hit2 := Lib.iterAt_heap wr w.heap.size ⟨l.toArray⟩ pos (pos + 1) hit
        have hbr2 := Lib.below_iterAt hbr (k := w.heap.size) (Nat.le_refl _) ⟨l.toArray⟩ (pos + 1)
        cases hn : nameC l[pos] with
        | true =>
          have HI : Hid (oddW (pos + 1) (l.drop (pos + 1)) = z) := (by rw [hn, if_pos rfl] at HS; exact HS)
          have hc := fun u => cisOdd_f (l[pos].toNat : Int) u false (by show _ = _; rw [odd_name, hn]; rfl)
          clear HS hn HA
          go_wp2_with fail
          refine (hc _).mono ?_
          rintro e w4 ⟨rfl, rfl⟩
          go_wp2
          go_roundw
          case rel => exact ⟨pos + 1, by omega, hit2, hbr2, HI⟩
          case measure => simp only [World.iterPos, hit, hit2]; omega
        | false =>
          have HE : Hid ((pos : Int) = z) := (by rw [hn, if_neg (by decide)] at HS; exact HS)
          have hc := fun u => cisOdd_f (l[pos].toNat : Int) u true (by show _ = _; rw [odd_name, hn]; rfl)
          clear HS hn HA
          go_wp2_with fail
          refine (hc _).mono ?_
          rintro e w4 ⟨rfl, rfl⟩
          go_wp2
          go_ret
          exact ⟨by rw [HE.out]; rfl, hbr2⟩
      · have hdh := (decode_high ⟨l.toArray⟩ pos hlt (by show 128 ≤ l[pos].toNat; omega))
        have hnx : ∀ ty, (Instr.next (.pointer (some ⟨w.heap.size, 0, none⟩)) true ty).run Try.prog wr = _ := fun ty => Lib.run_next_any_at wr w.heap.size ⟨l.toArray⟩ pos ty hit hlt
        have hbr2 := Lib.below_iterAt hbr (k := w.heap.size) (Nat.le_refl _) ⟨l.toArray⟩ (pos + (Utf8.decode ⟨l.toArray⟩ pos).2)
        have hdl := decode_le ⟨l.toArray⟩ pos
        have HE : Hid ((pos : Int) = z) := (by
          have hn : nameC l[pos] = false := (by unfold nameC; exact decide_eq_false (by omega))
          rw [hn, if_neg (by decide)] at HS
          exact HS)
        obtain ⟨hd1, hd2⟩ := hdh
        generalize Utf8.decode ⟨l.toArray⟩ pos = dd at *
        have hc := fun u => cisOdd_f (dd.1 : Int) u true (by
          show _ = _
          unfold oddI
          have : decide (126 < (dd.1 : Int)) = true := decide_eq_true (by omega)
          rw [this]
          simp)
        clear HS HA
        go_wp2_with fail
        refine (hc _).mono ?_
        rintro e w4 ⟨rfl, rfl⟩
        go_wp2
        go_ret
        exact ⟨by rw [HE.out]; rfl, hbr2⟩
    · have hnx : ∀ ty, (Instr.next (.pointer (some ⟨w.heap.size, 0, none⟩)) true ty).run Try.prog wr = _ := fun ty => Lib.run_next_end_at wr w.heap.size ⟨l.toArray⟩ pos ty hit hlt
      have HE : Hid (-1 = z) := (by
        have h := HA.out
        rw [List.drop_of_length_le (by omega)] at h
        exact h)
      clear HA
      go_wp2
      go_ret
      exact ⟨by rw [HE.out]; rfl, hbr⟩
set_option maxHeartbeats 1000000 in
theorem cIndexFunc_f (l : List UInt8) (w : World) (hl : l.length ≤ 1099511627776) (z : Int) (HZ : Hid (oddW 0 l = z)) :
    Calls Try.prog 25 #[.string ⟨l.toArray⟩, .func (.func 16) #[] #[]] w fun e w' => e = .returned (.int .i64 z) ∧ Below w.heap.size w w' := by
  go_enter Try.func25, Try.ntmps25
  go_wp2_with fail
  refine (cindexFunc_f l w hl z HZ).mono ?_
  rintro e w1 ⟨rfl, hB⟩
  go_wp2
  go_ret
  exact ⟨rfl, hB⟩
set_option maxHeartbeats 1000000 in
theorem cContainsFunc_f (l : List UInt8) (w : World) (hl : l.length ≤ 1099511627776) (q : Bool) (HQ : Hid ((!l.all nameC) = q)) :
    Calls Try.prog 15 #[.string ⟨l.toArray⟩, .func (.func 16) #[] #[]] w fun e w' => e = .returned (.bool q) ∧ Below w.heap.size w w' := by
  obtain ⟨z, hz⟩ : ∃ z, oddW 0 l = z := ⟨_, rfl⟩
  have HC := cIndexFunc_f l w hl z hz
  have HZ : Hid (decide (0 ≤ z) = q) := (by show _ = _; rw [← hz, oddW_all]; exact HQ.out)
  clear hz HQ
  go_enter Try.func15, Try.ntmps15
  go_wp2_with fail
  refine HC.mono ?_
  rintro e w1 ⟨rfl, hB⟩
  go_wp2
  go_ret
  exact ⟨by rw [HZ.out]; rfl, hB⟩
set_option maxHeartbeats 2000000 in
theorem cname_f (l : List UInt8) (w : World) (hl : l.length ≤ 1099511627776) (t : List UInt8) (HT : Hid (nameT l = t)) :
    Calls Try.prog 10 #[.string ⟨l.toArray⟩] w fun e w' => e = .returned (.string ⟨t.toArray⟩) ∧ Below w.heap.size w w' := by
  by_cases h0 : l = []
  · have HE : Hid (devN = t) := (by have h := HT.out; unfold nameT at h; rw [if_pos h0] at h; exact h)
    subst h0
    go_enter Try.func10, Try.ntmps10
    go_wp2
    go_ret
    exact ⟨by rw [← HE.out]; rfl, Below.refl _ _⟩
  · have e0 : l.isEmpty = false := (by cases l with | nil => exact absurd rfl h0 | cons _ _ => rfl)
    have hq := Quote_any l
    by_cases h1 : l = devN
    · have HE : Hid (Q.quote l = t) := (by have h := HT.out; unfold nameT at h; rw [if_neg h0, if_neg (fun q => q.2 h1)] at h; exact h)
      have e1 : (l == [47, 100, 101, 118, 47, 110, 117, 108, 108]) = true := (by rw [beq_iff_eq]; exact h1)
      clear HT h1
      go_enter Try.func10, Try.ntmps10
      go_wp2_with fail
      refine (hq _ hl).mono ?_
      rintro e w1 ⟨rfl, hB⟩
      go_wp2
      go_ret
      exact ⟨by rw [← HE.out]; rfl, hB⟩
    · have e1 : (l == [47, 100, 101, 118, 47, 110, 117, 108, 108]) = false := beq_eq_false_iff_ne.2 h1
      cases hn : l.all nameC with
      | true =>
        have HE : Hid (l = t) := (by have h := HT.out; unfold nameT at h; rw [if_neg h0, if_pos ⟨hn, h1⟩] at h; exact h)
        have hc := fun u => cContainsFunc_f l u hl false (by show _ = _; rw [hn]; rfl)
        clear HT h1 hn
        go_enter Try.func10, Try.ntmps10
        go_wp2_with fail
        refine (hc _).mono ?_
        rintro e w1 ⟨rfl, hB⟩
        go_wp2
        go_ret
        exact ⟨by rw [← HE.out]; rfl, hB⟩
      | false =>
        have HE : Hid (Q.quote l = t) := (by have h := HT.out; unfold nameT at h; rw [if_neg h0, if_neg (fun q => by rw [hn] at q; cases q.1)] at h; exact h)
        have hc := fun u => cContainsFunc_f l u hl true (by show _ = _; rw [hn]; rfl)
        clear HT h1 hn
        go_enter Try.func10, Try.ntmps10
        go_wp2_with fail
        refine (hc _).mono ?_
        rintro e w1 ⟨rfl, hB⟩
        go_wp2_with fail
        refine (hq _ hl).mono ?_
        rintro e w2 ⟨rfl, hB2⟩
        go_wp2
        go_ret
        exact ⟨by rw [← HE.out]; rfl, hB.trans (hB2.mono hB.size)⟩
end Go.Proofs.Ytgiojkhmkeocfaa

/- How long the normal form of a script is; plain mathematics. -/
namespace Go.Proofs.Ytgiojkhmkeocfaa

theorem cmd_len {c : Ch} (h : numB c = true) : (cmdT c).length ≤ 100 := by
  rw [numB_iff] at h
  have r1 := rng_short c.A c.AN h.1.1 (by omega) h.2.1.1 (by omega)
  have r2 := rng_short c.B c.BN h.2.2.1.1 (by omega) h.2.2.2.1.1 (by omega)
  have r3 := itoa_short c.A (by omega) (by omega)
  have r4 := itoa_short c.B (by omega) (by omega)
  unfold cmdT
  split
  · simp only [List.length_append, List.length_cons]; omega
  · split
    · simp only [List.length_append, List.length_cons]; omega
    · simp only [List.length_append, List.length_cons]; omega
theorem flat_drop {a : List (List UInt8)} {p A AN : Int} (hp : 0 ≤ p) (hA : p ≤ A) (hN : 0 ≤ AN) : (cut a A AN).flatten.length + (a.drop (A + AN).toNat).flatten.length ≤ (a.drop p.toNat).flatten.length := by
  have e1 : a.drop p.toNat = (a.drop p.toNat).take (A - p).toNat ++ a.drop A.toNat := by
    have h := (List.take_append_drop (A - p).toNat (a.drop p.toNat)).symm
    rw [List.drop_drop] at h
    have e : p.toNat + (A - p).toNat = A.toNat := by omega
    rw [e] at h
    exact h
  have e2 : a.drop A.toNat = cut a A AN ++ a.drop (A + AN).toNat := by
    have h := (List.take_append_drop AN.toNat (a.drop A.toNat)).symm
    rw [List.drop_drop] at h
    have e : A.toNat + AN.toNat = (A + AN).toNat := by omega
    rw [e] at h
    exact h
  rw [e1, e2]
  simp only [List.flatten_append, List.length_append]
  omega
theorem cut_le (a : List (List UInt8)) (p n : Int) : (cut a p n).length ≤ n.toNat := by
  unfold cut
  rw [List.length_take]
  omega
theorem chg_len {a b : List (List UInt8)} {c : Ch} (h : numB c = true) : (chgL a b c).flatten.length ≤ 105 + 31 * (c.AN.toNat + c.BN.toNat) + (cut a c.A c.AN).flatten.length + (cut b c.B c.BN).flatten.length := by
  have h1 := cmd_len h
  have h2 := lns_len [60, 32] (cut a c.A c.AN)
  have h3 := lns_len [62, 32] (cut b c.B c.BN)
  have h4 := cut_le a c.A c.AN
  have h5 := cut_le b c.B c.BN
  have h6 : (sepL c).flatten.length ≤ 4 := by
    unfold sepL
    split <;> simp
  simp only [List.length_cons, List.length_nil] at h2 h3
  simp only [chgL, List.flatten_cons, List.flatten_append, List.length_append, List.length_cons, List.length_nil]
  omega
theorem prt_len_at {a b : List (List UInt8)} {n m : Int} (l : List Ch) : ∀ {f : Bool} {p q : Int}, 0 ≤ p → 0 ≤ q → Right f p q n m l → (prtT l a b).length ≤ 105 * l.length + 31 * ((n - p).toNat + (m - q).toNat) + (a.drop p.toNat).flatten.length + (b.drop q.toNat).flatten.length := by
  induction l with
  | nil =>
    intro f p q _ _ _
    simp [prtT, prtL]
  | cons c l ih =>
    intro f p q hp hq h
    obtain ⟨⟨h1, h2, h3, _⟩, h5⟩ := h
    have hn := (numB_iff c).1 h1
    have hle := h5.le
    have g := ih (by omega) (by omega) h5
    have g1 := @chg_len a b c h1
    have g2 := @flat_drop a p c.A c.AN hp h3 hn.2.1.1
    have g3 := @flat_drop b q c.B c.BN hq (by omega) hn.2.2.2.1.1
    have e : prtT (c :: l) a b = (chgL a b c).flatten ++ prtT l a b := by simp [prtT, prtL]
    rw [e, List.length_append, List.length_cons]
    omega
/-- what is written of a right script -/
theorem prt_len {a b : List (List UInt8)} {l : List Ch} (h : Script l a.length b.length) : (prtT l a b).length ≤ 105 * l.length + 31 * (a.length + b.length) + a.flatten.length + b.flatten.length := by
  have g := @prt_len_at a b a.length b.length l true 0 0 (by omega) (by omega) h.2.2
  simpa using g
end Go.Proofs.Ytgiojkhmkeocfaa

/- The library's contracts on a strings.Builder's WriteString and on strings.HasSuffix, TrimSuffix and CutPrefix at this program: the program bears the bodies that they speak of. -/
namespace Go.Proofs
open Go.Shelf Go.RowKit
end Go.Proofs

/- The code's small functions of layer 12's Print, walked: numbers, ranges, letters, lines that are written. -/
namespace Go.Proofs.Ytgiojkhmkeocfaa
open Go.RowKit

/-- the table of powers of ten, in every later world -/
def Tab10 (w : World) : Prop := ∀ u : World, Below w.heap.size w u → Lib.TabIs Try.prog u "internal/strconv.uint64pow10" .u64 Lib.pow10Tab
theorem Tab10.on {w u : World} (h : Tab10 w) (hb : Below w.heap.size w u) : Tab10 u := fun v hv => h v (hb.trans (hv.mono hb.size))
/-- a range as the code writes it -/
def rgx (A N : Int) : List UInt8 := if N ≤ 1 then Lib.itoa A else Lib.itoa A ++ 44 :: Lib.itoa (A + N - 1)
theorem rgx_len {A N : Int} (h0 : 0 ≤ A) (h1 : A ≤ 4611686018427387904) (h2 : 0 ≤ N) (h3 : N ≤ 4611686018427387900) : (rgx A N).length ≤ 43 := by
  have l1 := itoa_short A (by omega) (by omega)
  have l2 := itoa_short (A + N - 1) (by omega) (by omega)
  unfold rgx
  split
  · omega
  · simp only [List.length_append, List.length_cons]
    omega
/-- what a hunk does, as the code writes it -/
def ltrT (AN BN : Int) : List UInt8 := if AN = 0 then [97] else if BN = 0 then [100] else [99]
theorem ltr_len (AN BN : Int) : (ltrT AN BN).length = 1 := by
  unfold ltrT
  split
  · rfl
  · split <;> rfl
end Go.Proofs.Ytgiojkhmkeocfaa

/- A line as it stands in a patch (package patchtext), walked. -/
namespace Go.Proofs.Ytgiojkhmkeocfaa
open Go.RowKit

theorem suf_feed (s : List UInt8) : Lib.hasSuffix s [10] = fdB s := by
  unfold Lib.hasSuffix fdB
  rw [Bool.eq_iff_iff, List.isSuffixOf_iff_suffix, beq_iff_eq]
  constructor
  · rintro ⟨t, rfl⟩
    simp
  · intro h
    obtain ⟨t, rfl⟩ := List.getLast?_eq_some_iff.1 h
    exact ⟨t, rfl⟩
/-- a line of a file as it stands behind its sign -/
def plT (s : List UInt8) : List UInt8 := if fdB s = true then s else s ++ 10 :: markT
theorem pl_lines (ah s : List UInt8) : (lnL ah s).flatten = ah ++ plT s := by
  unfold lnL plT
  split <;> simp
end Go.Proofs.Ytgiojkhmkeocfaa

/- The code's writeLines of layer 12, walked: lines behind a sign are written into a builder. -/
namespace Go.Proofs.Ytgiojkhmkeocfaa
open Go.RowKit

theorem bcells_len (l : List UInt8) : (Lib.byteCells l).length = l.length := by simp [Lib.byteCells]
/-- a builder stays as it is where all ahead stays -/
theorem isF_low {T e : TypeId} {B b : Nat} {bs : List Value} {w w' : World} (h : Lib.IsBuilderF T e B b bs w) (hb : Below w.heap.size w w') : Lib.IsBuilderF T e B b bs w' := by
  have key : ∀ p, Lib.BuilderAtF T e B b p bs w → Lib.BuilderAtF T e B b p bs w' := by
    rintro p ⟨h1, v, h2, h3, h4⟩
    refine ⟨h1, v, (hb.block b (Array.getElem?_eq_some_iff.1 h2).1).trans h2, ⟨h3.1, ?_⟩, h4⟩
    rcases h3.2 with q | ⟨g, cap, cur, fz, q1, q2, q3, q4⟩
    · exact .inl q
    · exact .inr ⟨g, cap, cur, fz, q1, q2, (hb.block g (Array.getElem?_eq_some_iff.1 q3).1).trans q3, q4⟩
  rcases h with h | h
  · exact .inl (key _ h)
  · exact .inr (key _ h)
theorem isF_fresh (w : World) : Lib.IsBuilderF 34 5 w.heap.size w.heap.size (Lib.byteCells []) (w.alloc (.cells #[.pointer none, .slice none 0 0] 34)) :=
  .inl ⟨Nat.le_refl _, .slice none 0 0, heap_alloc_new w _, ⟨rfl, .inl ⟨rfl, rfl⟩⟩, by simp [Value.ownBlock]⟩
/-- a row of texts of one's own stays where a builder is written -/
theorem owns_others {w u : World} {base b : Nat} {v : Value} {n : Nat} {xs : List Value} (h : w.ownsRow base 9 1 v n xs) (hk : Lib.OthersKept 5 (some b) w u) (hb : ∀ g, v.ownBlock = some g → g ≠ b) : u.ownsRow base 9 1 v n xs := by
  refine ⟨h.1, ?_⟩
  rcases h.2 with q | ⟨g, cap, cur, rfl, q2, q3, q4⟩
  · exact .inl q
  · refine .inr ⟨g, cap, cur, rfl, q2, hk g _ q3 (fun e => hb g rfl (Option.some.inj e)) (fun c fz e => ?_), q4⟩
    cases e
end Go.Proofs.Ytgiojkhmkeocfaa

/- The code's page of layer 15, walked: rows, lines, ranges; the signs that are shown. -/
namespace Go.Proofs.Ytgiojkhmkeocfaa
open Go.RowKit Go.Proofs.Ytgiojkhmkeocfaa

theorem cell_byte {c : Int} (h0 : 0 ≤ c) (h1 : c < 256) : Lib.byteCells [UInt8.ofNat c.toNat] = [.int .u8 c] := by
  have : ((UInt8.ofNat c.toNat).toNat : Int) = c := by
    rw [UInt8.toNat_ofNat']
    omega
  simp only [Lib.byteCells, List.map_cons, List.map_nil, this]
end Go.Proofs.Ytgiojkhmkeocfaa

/- The code's shownSigns of layer 15, walked. -/
namespace Go.Proofs.Ytgiojkhmkeocfaa
open Go.RowKit

def ucells (l : List Int) : List Value := l.map fun n => .int .u8 n
theorem ucells_length (l : List Int) : (ucells l).length = l.length := by simp [ucells]
theorem ucells_append (a b : List Int) : ucells (a ++ b) = ucells a ++ ucells b := by simp [ucells]
theorem ucells_one (l : List Int) : ∀ u ∈ ucells l, u.oneCell' = true := by
  intro u hu
  simp only [ucells, List.mem_map] at hu
  obtain ⟨n, _, rfl⟩ := hu
  rfl
theorem infoU : (Try.prog.info? 5).map (fun i => (i.zero, i.size, i.bytes)) = some (some (.int .u8 0), 1, 1) := by kernel_rfl
theorem u_row (w : World) (c : Int) : Holds (w.alloc (.cells #[.int .u8 c] 5)) (.slice (some ⟨w.heap.size, 0, none⟩) 1 1) 1 (ucells [c]) := new_holds w #[.int .u8 c] 5 1 1 (by decide)
def lenW : Value → Nat
  | .slice _ n _ => n
  | _ => 0
theorem mix_len (c : List Mk) : (mixM c).length = c.length := by simp [mixM]
theorem mix_at (c : List Mk) (mx : Bool) (HM : (hasM 45 c && hasM 43 c) = mx) (k : Nat) (hk : k < c.length) : (mixM c).drop k = (if mx = true then 33 else c[k].sg) :: (mixM c).drop (k + 1) := by
  have hl : k < (mixM c).length := by rw [mix_len]; exact hk
  rw [List.drop_eq_getElem_cons hl]
  congr 1
  simp only [mixM, List.getElem_map, HM]
end Go.Proofs.Ytgiojkhmkeocfaa

/- The code's side of a page of layer 15, walked. -/
namespace Go.Proofs.Ytgiojkhmkeocfaa
open Go.RowKit Go.Proofs.Ytgiojkhmkeocfaa

theorem cw_u8 {u : World} {a : Addr} {z : Int} (h : u.cell? a = some (.int .u8 z)) {op : Oper} (x : Operand) (ho : op.op = .load 5 x) {ev : Operand → Value} (hx : ev x = .pointer (some a)) :
    (execOp ev op).run Try.prog u = .ok (.value (.int .u8 z)) u := by
  simp only [execOp, ho, hx]
  go_simp
theorem cw_str {u : World} {a : Addr} {s : ByteArray} (h : u.cell? a = some (.string s)) {op : Oper} (x : Operand) (ho : op.op = .load 9 x) {ev : Operand → Value} (hx : ev x = .pointer (some a)) :
    (execOp ev op).run Try.prog u = .ok (.value (.string s)) u := by
  simp only [execOp, ho, hx]
  go_simp
theorem cw_ix {u : World} {b off n c i : Nat} (hi : i < n) {op : Oper} (x y : Operand) (ho : op.op = .indexAddr 32 x y) {ev : Operand → Value} (hx : ev x = .slice (some ⟨b, off, none⟩) n c) (hy : ev y = .int .i64 (i : Int)) :
    (execOp ev op).run Try.prog u = .ok (.value (.pointer (some ⟨b, off + i, none⟩))) u := by
  have i1 : 0 ≤ (i : Int) := by omega
  have i2 : (i : Int) < (n : Int) := by omega
  simp only [execOp, ho, hx, hy]
  go_simp
/-- what a slice of bytes holds, place by place -/
theorem hu_at {w : World} {ao : Option Addr} {n c : Nat} {l : List Int} (h : Holds w (.slice ao n c) n (ucells l)) (hl : l.length = n) (h0 : 0 < n) : ∃ b off, ao = some ⟨b, off, none⟩ ∧ ∀ k (hk : k < l.length), w.cell? ⟨b, off + k, none⟩ = some (.int .u8 l[k]) := by
  rcases h with ⟨_, h1, _⟩ | ⟨ad, c', h, _, hc⟩
  · omega
  · cases h
    have h1 := hc 0 _ (List.getElem?_eq_getElem (by rw [ucells_length]; omega))
    obtain ⟨b, off, rfl⟩ := addr_of h1
    refine ⟨b, off, rfl, fun k hk => ?_⟩
    have := hc k (.int .u8 l[k]) (by simp [ucells, hk])
    rw [add_none] at this
    exact this
theorem sidZ_drop (sg : Int) (l : List Mk) (sh : List Int) (k : Nat) (h : l.length = sh.length) (hk : k < l.length) : sidZ sg (l.drop k) (sh.drop k) = (if l[k].sg = 32 ∨ l[k].sg = sg then lnL [UInt8.ofNat (sh[k]'(by omega)).toNat, 32] l[k].tx else []) ++ sidZ sg (l.drop (k + 1)) (sh.drop (k + 1)) := by
  rw [List.drop_eq_getElem_cons hk, List.drop_eq_getElem_cons (show k < sh.length by omega)]
  rfl
end Go.Proofs.Ytgiojkhmkeocfaa

/- The code's Check of layer 11, walked. -/
namespace Go.Proofs.Ytgiojkhmkeocfaa
open Ln Go.RowKit

theorem rng_nm (h : Hk) : rngB h = (nmB h.A h.AN && nmB h.B h.BN) := by
  unfold rngB nmB
  cases nat31 h.A <;> cases nat31 h.AN <;> cases nat31 h.B <;> cases nat31 h.BN <;> cases decide (h.A = 0) <;> cases decide (0 < h.AN) <;> cases decide (h.B = 0) <;> cases decide (0 < h.BN) <;> rfl
theorem pk_mem {no : Int} {l : List Mk} {a : List UInt8} (h : a ∈ pkL no l) : ∃ m ∈ l, m.tx = a := by
  induction l with
  | nil => cases h
  | cons m l ih =>
    simp only [pkL] at h
    split at h
    · rcases List.mem_cons.1 h with rfl | h
      · exact ⟨m, by simp, rfl⟩
      · obtain ⟨x, hx, e⟩ := ih h
        exact ⟨x, by simp [hx], e⟩
    · obtain ⟨x, hx, e⟩ := ih h
      exact ⟨x, by simp [hx], e⟩
theorem chk_rng {h : Hk} (hq : rngB h = false) : chkH h = 2 := by
  unfold chkH
  rw [if_pos hq]
theorem chk_fld {h : Hk} (h1 : rngB h = true) (hq : fldB h.ls = false) : chkH h = 6 := by
  unfold chkH
  rw [if_neg (by rw [h1]; decide), if_pos hq]
theorem chk_cnt {h : Hk} (h1 : rngB h = true) (h2 : fldB h.ls = true) (hq : h.AN ≠ (oldL h).length ∨ h.BN ≠ (newL h).length) : chkH h = 120 := by
  unfold chkH
  rw [if_neg (by rw [h1]; decide), if_neg (by rw [h2]; decide), if_pos hq]
theorem all_chg {l : List Mk} (ha : allB l = true) : l.all (fun m => decide (m.sg = 32)) = !l.any chgB := by
  induction l with
  | nil => rfl
  | cons m l ih =>
    simp only [allB, List.all_cons, Bool.and_eq_true] at ha
    simp only [List.all_cons, List.any_cons]
    rw [ih ha.2]
    have hm := ha.1
    simp only [okS, Bool.or_eq_true, decide_eq_true_eq] at hm
    unfold chgB
    rcases hm with (hm | hm) | hm <;> rw [hm] <;> simp
theorem chk_end {h : Hk} (h1 : rngB h = true) (h2 : fldB h.ls = true) (h3 : h.AN = (oldL h).length) (h4 : h.BN = (newL h).length) {q : Bool} (hq : h.ls.any chgB = q) : chkH h = if q = true then 0 else 50 := by
  unfold chkH
  rw [if_neg (by rw [h1]; decide), if_neg (by rw [h2]; decide), if_neg (fun k => by rcases k with k | k <;> contradiction)]
  have ha : allB h.ls = true := by
    have := fld_code h.ls
    rw [h2] at this
    simp only [Bool.true_eq, Bool.and_eq_true] at this
    exact this.1.1
  rw [all_chg ha, hq]
  cases q <;> rfl
theorem any_strange (l : List Mk) : l.any (fun m => !okS m.sg) = !allB l := by
  induction l with
  | nil => rfl
  | cons m l ih =>
    simp only [List.any_cons, allB, List.all_cons, Bool.not_and] at ih ⊢
    rw [ih]
end Go.Proofs.Ytgiojkhmkeocfaa

/- The code's text of a hunk, check and Print of layer 15, walked. -/
namespace Go.Proofs.Ytgiojkhmkeocfaa
open Go.RowKit Go.Proofs.Ytgiojkhmkeocfaa

theorem shown_keep {B b base : Nat} {v : Value} {w : World} {sv : Value} {n : Nat} {xs : List Value} (h : w.ownsRow base 5 1 sv n xs) (hb : b < base) (hv : ∀ g, v.ownBlock = some g → g < base) : ∀ (v' : Value) (u : World), Wr B b v v' w u → Holds u sv n xs := by
  intro v' u hw
  rcases h.2 with ⟨rfl, h0⟩ | ⟨g, cap, cur, rfl, hg, hgb, hnc, _⟩
  · exact .inl ⟨rfl, h0, List.eq_nil_of_length_eq_zero (by rw [h.1, h0, Nat.zero_mul])⟩
  · refine .inr ⟨⟨g, 0, none⟩, cap, rfl, hnc, fun j x hj => ?_⟩
    have h1 := h.cells (g := g) rfl j x hj
    obtain ⟨h2, _⟩ := hw.block hgb ⟨by omega, fun e => by have := hv g e; omega⟩
    rw [add_none] at h1 ⊢
    rw [World.cell?_of_block (w := w) (by show u.heap[g]? = w.heap[g]?; rw [h2, hgb])]
    exact h1
theorem shw_signs (l : List Mk) (h : ∀ m ∈ l, okS m.sg = true) : ∀ r a, ∀ x ∈ shwL r a l, 0 ≤ x ∧ x < 256 := by
  induction l with
  | nil => intro r a x hx; cases hx
  | cons m l ih =>
    intro r a x hx
    have hi := ih fun y hy => h y (by simp [hy])
    have hm := h m (by simp)
    have hc : m.sg = 32 ∨ m.sg = 45 ∨ m.sg = 43 := by simp [okS] at hm; omega
    simp only [shwL] at hx
    split at hx
    · rcases List.mem_cons.1 hx with rfl | hx
      · omega
      · exact hi _ _ x hx
    · rcases List.mem_cons.1 hx with rfl | hx
      · split <;> omega
      · exact hi _ _ x hx
theorem side_code0 (sg : Int) (l : List Mk) : (if hasM sg l = true then sidZ sg l (shwL false false l) else []) = sideL sg l := by
  unfold sideL
  rw [sid_shw]
  rfl
theorem chk_signs {h : Hk} (hc : chkH h = 0) : ∀ m ∈ h.ls, okS m.sg = true := by
  obtain ⟨_, hf, _⟩ := chk_out hc
  exact fun m hm => (((fld_iff _).1 hf).1 m hm).2
theorem row_len (e : UInt8) (T : List UInt8) : ([e, e, e, 32] ++ T ++ [32, e, e, e, e]).length = T.length + 9 := by simp
end Go.Proofs.Ytgiojkhmkeocfaa

/- The code's check and Print of layer 15, walked. -/
namespace Go.Proofs.Ytgiojkhmkeocfaa
open Go.RowKit Go.Proofs.Ytgiojkhmkeocfaa

/-- a patch as a value, as a variable -/
def ptV (p : Pth) (v : Value) : Value := .agg #[.string ⟨p.old.toArray⟩, .string ⟨p.new.toArray⟩, v]
end Go.Proofs.Ytgiojkhmkeocfaa

/- The code's Print of layer 16, walked: counts, names, the text of a hunk. -/
namespace Go.Proofs.Ytgiojkhmkeocfaa
open Go.RowKit Go.Proofs.Ytgiojkhmkeocfaa

set_option maxHeartbeats 1000000 in
theorem uname_f (l : List UInt8) (w : World) (hl : l.length ≤ 1099511627776) (t : List UInt8) (HT : Hid (nameT l = t)) :
    Calls Try.prog 6 #[.string ⟨l.toArray⟩] w fun e w' => e = .returned (.string ⟨t.toArray⟩) ∧ Below w.heap.size w w' := by
  go_enter Try.func6, Try.ntmps6
  go_wp2_with fail
  refine (cname_f l w hl t HT).mono ?_
  rintro e w1 ⟨rfl, hB⟩
  go_wp2
  go_ret
  exact ⟨rfl, hB⟩
/-- a builder that holds a text -/
def Bu (B b : Nat) (v : Value) (acc : List UInt8) (w : World) : Prop := Bld 34 5 B b v (Lib.byteCells acc) w
theorem Bu.low {B b : Nat} {v : Value} {acc : List UInt8} {w w' : World} (h : Bu B b v acc w) (hb : Below w.heap.size w w') : Bu B b v acc w' := Bld.kept h hb.block
theorem cw_i64 {u : World} {a : Addr} {z : Int} (h : u.cell? a = some (.int .i64 z)) {op : Oper} (x : Operand) (ho : op.op = .load 3 x) {ev : Operand → Value} (hx : ev x = .pointer (some a)) :
    (execOp ev op).run Try.prog u = .ok (.value (.int .i64 z)) u := by
  simp only [execOp, ho, hx]
  go_simp
theorem cw_addU {x y z : List UInt8} (h : ∀ u : World, (Op.stringOp .add ⟨x.toArray⟩ ⟨y.toArray⟩).run Try.prog u = .ok (.string ⟨z.toArray⟩) u) {u : World} {op : Oper} (a b : Operand) (ho : op.op = .binOp .add 9 a b 9) {ev : Operand → Value} (ha : ev a = .string ⟨x.toArray⟩) (hb : ev b = .string ⟨y.toArray⟩) :
    (execOp ev op).run Try.prog u = .ok (.value (.string ⟨z.toArray⟩)) u := by
  simp only [execOp, ho, ha, hb]
  go_simp
theorem um_flat (m : Mk) : (umL m).flatten = UInt8.ofNat m.sg.toNat :: plT m.tx := by
  unfold umL
  rw [pl_lines]
  rfl
end Go.Proofs.Ytgiojkhmkeocfaa

/- The reference's reader of lines, walked: its place, its first fault; the next line. -/
namespace Go.Proofs.Ytgiojkhmkeocfaa
open Go.RowKit

section
variable {u u' : World} {R : Nat} {vL : Value} {p fa fe : Int}
end
theorem grown_two {w u v : World} {r : Option Nat} (h : w.grownBy u r) (h' : u.grownBy v r) : w.grownBy v r :=
  ⟨h'.os.trans h.os, h'.tape.trans h.tape, h'.output.trans h.output, Nat.le_trans h.size h'.size, fun k hk hr => (h'.block k (Nat.lt_of_lt_of_le hk h.size) hr).trans (h.block k hk hr)⟩
theorem nxt_drop {L : List (List UInt8)} {p : Nat} (hp : p < L.length) : nxt p (L.drop p) = if fdB L[p] = true then .ok (L[p].dropLast, L.drop (p + 1)) else .error (p + 1, 3) := by
  rw [List.drop_eq_getElem_cons hp]
  rfl
theorem nxt_end {L : List (List UInt8)} {p : Nat} (hp : L.length ≤ p) : nxt p (L.drop p) = .error (p + 1, 1) := by
  rw [List.drop_eq_nil_of_le hp]
  rfl
end Go.Proofs.Ytgiojkhmkeocfaa

/- The reference's reader, walked: does the next line begin with some bytes? -/
namespace Go.Proofs.Ytgiojkhmkeocfaa
open Go.RowKit
attribute [local go_sem] ByteArray.extract_mk no_at

theorem pre_take (sg l : List UInt8) : sg.isPrefixOf l = (decide (sg.length ≤ l.length) && (l.take sg.length == sg)) := by
  rw [Bool.eq_iff_iff, List.isPrefixOf_iff_prefix, Bool.and_eq_true, decide_eq_true_eq, beq_iff_eq]
  constructor
  · rintro ⟨t, rfl⟩
    simp
  · rintro ⟨_, h⟩
    refine ⟨l.drop sg.length, ?_⟩
    have h2 := List.take_append_drop sg.length l
    rw [h] at h2
    exact h2
end Go.Proofs.Ytgiojkhmkeocfaa

/- The reference's reader, walked: a line with a sign, behind which the mark may stand. -/
namespace Go.Proofs.Ytgiojkhmkeocfaa
open Go.RowKit
attribute [local go_sem] ByteArray.extract_mk no_at

theorem HS.away {w w' : World} {R : Nat} {lo : Option Addr} {lc : Nat} {L : List (List UInt8)} (h : HS w (.slice lo L.length lc) L) (hg : w.grownBy w' (some R)) (hR : ∀ a, lo = some a → a.block ≠ R) : HS w' (.slice lo L.length lc) L := by
  rcases h with h | ⟨ad, c, hv, hnc, hc⟩
  · exact .inl h
  · refine .inr ⟨ad, c, hv, hnc, fun j u hj => ?_⟩
    cases hv
    have h1 := hc j u hj
    have hb : (ad.add j).block = ad.block := by unfold Addr.add; split <;> rfl
    have hlt := World.block_lt_of_cell? w _ h1
    rw [World.cell?_of_block (w := w) (hg.block _ hlt (fun e => hR ad rfl (by rw [← hb]; exact Option.some.inj e)))]
    exact h1
end Go.Proofs.Ytgiojkhmkeocfaa

/- The code's reader of lines, walked: what is wrong is thrown; the next line; the line between. -/
namespace Go.Proofs.Ytgiojkhmkeocfaa
open Go.RowKit
attribute [local go_sem] ByteArray.extract_mk no_at

section
variable {u u' : World} {R : Nat} {vL : Value} {p : Int}
end
theorem drop_feed {s : List UInt8} (h : fdB s = true) : s.dropLast ++ [10] = s := (fd_form h).symm
end Go.Proofs.Ytgiojkhmkeocfaa

/- The normal form as the code reads it, and that it is read as the plain reader does; plain mathematics. -/
namespace Go.Proofs.Ytgiojkhmkeocfaa
open Ln

/-- so many lines with a sign, with their line feeds -/
def rdL (sg : List UInt8) (S : Int) : Nat → Nat → List (List UInt8) → Except (Nat × Int) (List Mk × Nat × List (List UInt8))
  | 0, p, ls => .ok ([], p, ls)
  | n + 1, p, ls => match nxt p ls with
    | .error e => .error e
    | .ok (s, r) => if sg.isPrefixOf s = true then match rdL sg S n (p + 1) r with
        | .error e => .error e
        | .ok (l, p2, r2) => .ok (⟨S, s.drop sg.length ++ [10]⟩ :: l, p2, r2)
      else .error (p + 1, 3)
/-- the last text without its line feed -/
def cutL : List Mk → List Mk
  | [] => []
  | [m] => [⟨m.sg, m.tx.dropLast⟩]
  | m :: l => m :: cutL l
def lastT (l : List Mk) : List UInt8 := (l.getLast?.map (·.tx)).getD []
/-- does the last line lose its line feed? -/
def endK (l : List Mk) (r : List (List UInt8)) : Bool := lastT l != [10] && pkM r
/-- a side as the code reads it -/
def sdC (sg : List UInt8) (S : Int) (n p : Nat) (ls : List (List UInt8)) : Except (Nat × Int) (List Mk × Nat × List (List UInt8)) :=
  match rdL sg S n p ls with
  | .error e => .error e
  | .ok (l, p1, r) => if (decide (0 < n) && endK l r) = true then .ok (cutL l, p1 + 1, r.tail) else .ok (l, p1, r)
/-- a hunk as the code reads it -/
def hkK (k p : Nat) (ls : List (List UInt8)) : Except (Nat × Int) (Hk × Nat × List (List UInt8)) :=
  match nxt p ls with
  | .error e => .error e
  | .ok (s, r) => match cmdP s with
    | none => .error (p + 1, 3)
    | some (A, AN, B, BN) => if k = 4096 then .error (p + 1, 9) else match sdC [60, 32] 45 AN.toNat (p + 1) r with
      | .error e => .error e
      | .ok (l1, p1, r1) => match (if 0 < AN ∧ 0 < BN then sepP p1 r1 else .ok (p1, r1)) with
        | .error e => .error e
        | .ok (p2, r2) => match sdC [62, 32] 43 BN.toNat p2 r2 with
          | .error e => .error e
          | .ok (l2, p3, r3) => .ok (⟨A, AN, B, BN, l1 ++ l2⟩, p3, r3)
def hksK : Nat → Nat → Nat → List (List UInt8) → Except (Nat × Int) (List Hk)
  | 0, _, _, _ => .ok []
  | f + 1, k, p, ls => if ls = [] then .ok [] else match hkK k p ls with
    | .error e => .error e
    | .ok (h, p1, r) => match hksK f (k + 1) p1 r with
      | .error e => .error e
      | .ok l => .ok (h :: l)
/-- a side that is followed by a mark behind an empty line: wrong in both ways of reading -/
def Bad (X Y : Except (Nat × Int) (List Mk × Nat × List (List UInt8))) : Prop := ∃ l p r, Y = .ok (l, p, markT :: r) ∧ X = .error (p + 1, 3)
theorem mark_eq {s : List UInt8} (hp : ∀ c ∈ s.dropLast, c ≠ 10) (h : markT.isPrefixOf s = true) : s = markT := by
  rw [List.isPrefixOf_iff_prefix] at h
  obtain ⟨t, rfl⟩ := h
  cases t with
  | nil => simp
  | cons c t =>
    exfalso
    have h1 : (10 : UInt8) ∈ (markT ++ c :: t).dropLast := by
      rw [List.dropLast_append_of_ne_nil (by simp)]
      exact List.mem_append_left _ (by decide)
    exact hp 10 h1 rfl
theorem cutL_cons {m : Mk} {l : List Mk} (h : l ≠ []) : cutL (m :: l) = m :: cutL l := by
  cases l with
  | nil => exact absurd rfl h
  | cons y l => rfl
theorem cutL_snoc (l : List Mk) (m : Mk) : cutL (l ++ [m]) = l ++ [⟨m.sg, m.tx.dropLast⟩] := by
  induction l with
  | nil => rfl
  | cons x l ih =>
    rw [List.cons_append, cutL_cons (by simp), ih]
    rfl
theorem lastT_snoc (l : List Mk) (m : Mk) : lastT (l ++ [m]) = m.tx := by simp [lastT]
theorem sdC_zero (sg : List UInt8) (S : Int) (p : Nat) (ls : List (List UInt8)) : sdC sg S 0 p ls = .ok ([], p, ls) := by
  unfold sdC rdL
  rfl
theorem lastT_cons {m : Mk} {l : List Mk} (h : l ≠ []) : lastT (m :: l) = lastT l := by
  cases l with
  | nil => exact absurd rfl h
  | cons y l => simp [lastT]
theorem rdL_len {sg : List UInt8} {S : Int} (n : Nat) : ∀ {p : Nat} {ls : List (List UInt8)} {l : List Mk} {p1 : Nat} {r : List (List UInt8)}, rdL sg S n p ls = .ok (l, p1, r) → l.length = n ∧ p1 = p + n ∧ ls.drop n = r ∧ n ≤ ls.length := by
  induction n with
  | zero =>
    intro p ls l p1 r h
    simp only [rdL] at h
    cases h
    exact ⟨rfl, rfl, rfl, Nat.zero_le _⟩
  | succ n ih =>
    intro p ls l p1 r h
    simp only [rdL] at h
    split at h
    · cases h
    · rename_i s r0 hn
      have hls := nxt_ok hn
      split at h
      · split at h
        · cases h
        · rename_i l' q r' hq
          obtain ⟨a1, a2, a3, a4⟩ := ih hq
          cases h
          subst hls
          exact ⟨by simp [a1], by omega, by simpa using a3, by simp; omega⟩
      · cases h
/-- the two ways of reading a side -/
theorem side_both {sg : List UInt8} {S : Int} (n : Nat) : ∀ {p : Nat} {ls : List (List UInt8)}, Plain ls → rdN sg S n p ls = sdC sg S n p ls ∨ Bad (rdN sg S n p ls) (sdC sg S n p ls) := by
  induction n with
  | zero =>
    intro p ls _
    left
    rw [sdC_zero]
    rfl
  | succ n ih =>
    intro p ls hP
    unfold sdC
    simp only [rdN, rdL, mkd]
    cases hn : nxt p ls with
    | error e => left; rfl
    | ok z =>
      obtain ⟨s, r⟩ := z
      dsimp only
      have hls := nxt_ok hn
      subst hls
      have hPr : Plain r := fun x hx => hP x (by simp [hx])
      have hsn : ∀ c ∈ s, c ≠ 10 := by
        have := hP (s ++ [10]) (by simp)
        simpa using this
      by_cases hpre : sg.isPrefixOf s = true
      · rw [if_pos hpre, if_pos hpre]
        cases n with
        | zero =>
          simp only [rdN, rdL]
          have e1 : ((0 : Nat) == 0) = true := rfl
          rw [e1, Bool.true_and]
          have e2 : lastT [(⟨S, s.drop sg.length ++ [10]⟩ : Mk)] = s.drop sg.length ++ [10] := rfl
          unfold endK
          rw [e2]
          have e3 : decide (0 < 0 + 1) = true := rfl
          rw [e3, Bool.true_and]
          cases hk : pkM r with
          | false =>
            left
            rw [if_neg (by decide), Bool.and_false, if_neg (by decide)]
          | true =>
            rw [if_pos rfl, Bool.and_true]
            by_cases hem : s.drop sg.length = []
            · right
              rw [if_pos hem, hem]
              rw [if_neg (by decide)]
              cases r with
              | nil => cases hk
              | cons y r =>
                have : y = markT := mark_eq (hPr y (by simp)) hk
                subst this
                exact ⟨_, _, _, rfl, rfl⟩
            · left
              have e4 : (s.drop sg.length ++ [10] != [10]) = true := by
                rw [bne_iff_ne]
                intro h
                apply hem
                have := congrArg List.length h
                simp at this
                exact List.eq_nil_of_length_eq_zero (by simpa using this)
              rw [if_neg hem, e4, if_pos rfl]
              simp [cutL]
        | succ n =>
          have e1 : ((n + 1 : Nat) == 0) = false := rfl
          rw [e1, Bool.false_and, if_neg (by decide)]
          dsimp only
          have hi := @ih (p + 1) r hPr
          unfold sdC at hi
          cases hL : rdL sg S (n + 1) (p + 1) r with
          | error e =>
            rw [hL] at hi
            left
            rcases hi with hi | ⟨_, _, _, h, _⟩
            · rw [hi]
            · cases h
          | ok z =>
            obtain ⟨l, p1, r1⟩ := z
            rw [hL] at hi
            dsimp only at hi ⊢
            have hlen := (rdL_len _ hL).1
            have hne : l ≠ [] := by
              rintro rfl
              simp at hlen
            unfold endK at hi ⊢
            rw [lastT_cons hne, cutL_cons hne]
            have e3 : decide (0 < n + 1) = true := decide_eq_true (by omega)
            have e4 : decide (0 < n + 1 + 1) = true := decide_eq_true (by omega)
            rw [e3] at hi
            rw [e4]
            by_cases hb : (true && (lastT l != [10] && pkM r1)) = true
            · rw [if_pos hb] at hi ⊢
              rcases hi with hi | ⟨l', p', r', h, h'⟩
              · left
                rw [hi]
              · right
                simp only [Except.ok.injEq, Prod.mk.injEq] at h
                obtain ⟨rfl, rfl, h⟩ := h
                exact ⟨_, _, r', by rw [h], by rw [h']⟩
            · rw [if_neg hb] at hi ⊢
              rcases hi with hi | ⟨l', p', r', h, h'⟩
              · left
                rw [hi]
              · right
                cases h
                exact ⟨_, _, _, rfl, by rw [h']⟩
      · left
        rw [if_neg hpre, if_neg hpre]
theorem sdC_drop {sg : List UInt8} {S : Int} {n p : Nat} {ls : List (List UInt8)} {l : List Mk} {p1 : Nat} {r : List (List UInt8)} (h : sdC sg S n p ls = .ok (l, p1, r)) : ∃ j, r = ls.drop j ∧ p1 = p + j ∧ j ≤ ls.length := by
  unfold sdC at h
  split at h
  · cases h
  · rename_i l' q r' hq
    obtain ⟨a1, a2, a3, a4⟩ := rdL_len _ hq
    split at h
    · rename_i hb
      cases h
      have hk : pkM r' = true := by
        unfold endK at hb
        simp only [Bool.and_eq_true] at hb
        exact hb.2.2
      have h1 : 0 < r'.length := by
        cases r' with
        | nil => cases hk
        | cons => simp
      rw [← a3, List.length_drop] at h1
      exact ⟨n + 1, by rw [← a3, List.tail_drop], by omega, by omega⟩
    · cases h
      exact ⟨n, a3.symm, a2, a4⟩
theorem cutL_len (l : List Mk) : (cutL l).length = l.length := by
  induction l with
  | nil => rfl
  | cons m l ih =>
    cases l with
    | nil => rfl
    | cons y l => rw [cutL_cons (by simp), List.length_cons, ih]; rfl
theorem sdC_len {sg : List UInt8} {S : Int} {n p : Nat} {ls : List (List UInt8)} {l : List Mk} {p1 : Nat} {r : List (List UInt8)} (h : sdC sg S n p ls = .ok (l, p1, r)) : l.length = n := by
  unfold sdC at h
  split at h
  · cases h
  · rename_i l' q r' hq
    obtain ⟨a1, a2, a3, a4⟩ := rdL_len _ hq
    split at h
    · cases h
      rw [cutL_len, a1]
    · cases h
      exact a1
theorem sepP_drop {p p1 : Nat} {ls r : List (List UInt8)} (h : sepP p ls = .ok (p1, r)) : r = ls.drop 1 ∧ p1 = p + 1 ∧ 1 ≤ ls.length := by
  unfold sepP at h
  split at h
  · cases h
  · rename_i s r0 hn
    have := nxt_ok hn
    subst this
    split at h
    · cases h
      exact ⟨rfl, rfl, by simp⟩
    · cases h
theorem hkK_drop {k p p1 : Nat} {ls r : List (List UInt8)} {h : Hk} (hh : hkK k p ls = .ok (h, p1, r)) : ∃ j, r = ls.drop j ∧ p1 = p + j ∧ 1 ≤ j ∧ j ≤ ls.length ∧ k ≠ 4096 := by
  unfold hkK at hh
  split at hh
  · cases hh
  · rename_i s r0 hn
    have := nxt_ok hn
    subst this
    split at hh
    · cases hh
    · split at hh
      · cases hh
      · rename_i hk
        split at hh
        · cases hh
        · rename_i l1 q1 r1 h1
          obtain ⟨j1, b1, b2, b3⟩ := sdC_drop h1
          split at hh
          · cases hh
          · rename_i q2 r2 h2
            have hs : ∃ j, r2 = r1.drop j ∧ q2 = q1 + j ∧ j ≤ r1.length := (by
              split at h2
              · obtain ⟨c1, c2, c3⟩ := sepP_drop h2
                exact ⟨1, c1, c2, c3⟩
              · cases h2
                exact ⟨0, rfl, rfl, Nat.zero_le _⟩)
            obtain ⟨j2, c1, c2, c3⟩ := hs
            split at hh
            · cases hh
            · rename_i l2 q3 r3 h3
              obtain ⟨j3, d1, d2, d3⟩ := sdC_drop h3
              cases hh
              subst d1 c1 b1
              simp only [List.length_drop] at c3 d3
              refine ⟨1 + (j1 + (j2 + j3)), ?_, by omega, by omega, by simp only [List.length_cons]; omega, hk⟩
              rw [List.drop_drop, List.drop_drop, Nat.add_comm 1, List.drop_succ_cons]
theorem plain_drop {ls : List (List UInt8)} (h : Plain ls) (j : Nat) : Plain (ls.drop j) := fun x hx => h x (List.mem_of_mem_drop hx)
theorem mark_nxt (p : Nat) (r : List (List UInt8)) : nxt p (markT :: r) = .ok (markT.dropLast, r) := rfl
theorem mark_cmd : cmdP markT.dropLast = none := by decide +kernel
theorem mark_sep (p : Nat) (r : List (List UInt8)) : sepP p (markT :: r) = .error (p + 1, 3) := by
  unfold sepP
  rw [mark_nxt]
  rfl
theorem mark_hk (k p : Nat) (r : List (List UInt8)) : hkK k p (markT :: r) = .error (p + 1, 3) ∧ hkP k p (markT :: r) = .error (p + 1, 3) := by
  unfold hkK hkP
  rw [mark_nxt]
  dsimp only
  rw [mark_cmd]
  exact ⟨rfl, rfl⟩
theorem hk_both {k p : Nat} {ls : List (List UInt8)} (hP : Plain ls) (hk : k ≤ 4096) : hkP k p ls = hkK k p ls ∨ ∃ h p1 r, hkK k p ls = .ok (h, p1, markT :: r) ∧ hkP k p ls = .error (p1 + 1, 3) := by
  unfold hkP hkK
  cases hn : nxt p ls with
  | error e => left; rfl
  | ok z =>
    obtain ⟨s, r⟩ := z
    dsimp only
    have hls := nxt_ok hn
    subst hls
    have hPr : Plain r := fun x hx => hP x (by simp [hx])
    cases hc : cmdP s with
    | none => left; rfl
    | some z =>
      obtain ⟨A, AN, B, BN⟩ := z
      dsimp only
      by_cases hk2 : k = 4096
      · left
        rw [if_pos (by omega), if_pos hk2]
      · rw [if_neg (by omega), if_neg hk2]
        have hr := cmd_right hc
        rcases @side_both [60, 32] 45 AN.toNat (p + 1) r hPr with h1 | ⟨l, q, r', h1, h2⟩
        · rw [h1]
          cases hs : sdC [60, 32] 45 AN.toNat (p + 1) r with
          | error e => left; rfl
          | ok z =>
            obtain ⟨l1, p1, r1⟩ := z
            dsimp only
            obtain ⟨j, b1, _, _⟩ := sdC_drop hs
            have hP1 : Plain r1 := by rw [b1]; exact plain_drop hPr j
            cases hp : (if 0 < AN ∧ 0 < BN then sepP p1 r1 else Except.ok (p1, r1)) with
            | error e => left; rfl
            | ok z =>
              obtain ⟨p2, r2⟩ := z
              dsimp only
              have hP2 : Plain r2 := (by
                split at hp
                · obtain ⟨c1, _, _⟩ := sepP_drop hp
                  rw [c1]
                  exact plain_drop hP1 1
                · cases hp
                  exact hP1)
              rcases @side_both [62, 32] 43 BN.toNat p2 r2 hP2 with h3 | ⟨l, q, r', h3, h4⟩
              · left
                rw [h3]
                cases sdC [62, 32] 43 BN.toNat p2 r2 <;> rfl
              · right
                rw [h3, h4]
                exact ⟨_, _, _, rfl, rfl⟩
        · rw [h1, h2]
          dsimp only
          by_cases hb : 0 < AN ∧ 0 < BN
          · left
            rw [if_pos hb, mark_sep]
          · rw [if_neg hb]
            dsimp only
            have hBN : BN.toNat = 0 := (by
              have hA : AN.toNat ≠ 0 := (by
                intro h0
                rw [h0] at h2
                cases h2)
              omega)
            rw [hBN, sdC_zero]
            right
            exact ⟨_, _, _, rfl, rfl⟩
theorem hks_both (f : Nat) : ∀ {k p : Nat} {ls : List (List UInt8)}, Plain ls → ls.length ≤ f → k ≤ 4096 → hksP f k p ls = hksK f k p ls := by
  induction f with
  | zero => intros; rfl
  | succ f ih =>
    intro k p ls hP hf hk
    simp only [hksP, hksK]
    by_cases h0 : ls = []
    · rw [if_pos h0, if_pos h0]
    · rw [if_neg h0, if_neg h0]
      rcases @hk_both k p ls hP hk with h | ⟨h, p1, r, h1, h2⟩
      · rw [h]
        cases hc : hkK k p ls with
        | error e => rfl
        | ok z =>
          obtain ⟨h', p1, r⟩ := z
          obtain ⟨j, b1, b2, b3, b4, b5⟩ := hkK_drop hc
          dsimp only
          rw [@ih (k + 1) p1 r (by rw [b1]; exact plain_drop hP j) (by rw [b1, List.length_drop]; omega) (by omega)]
          cases hksK f (k + 1) p1 r <;> rfl
      · rw [h1, h2]
        dsimp only
        obtain ⟨j, b1, b2, b3, b4, b5⟩ := hkK_drop h1
        have hl : (markT :: r).length ≤ f := by rw [b1, List.length_drop]; omega
        cases f with
        | zero => simp at hl
        | succ f =>
          simp only [hksK]
          rw [if_neg (by simp), (mark_hk (k + 1) p1 r).1]
/-- a text as the code reads it -/
theorem prs_code (t : List UInt8) : prsT t = if 1048576 < t.length then .error (0, 9) else hksK (splitL t).length 0 0 (splitL t) := by
  unfold prsT
  split
  · rfl
  · exact hks_both _ (split_plain t) (Nat.le_refl _) (by omega)
end Go.Proofs.Ytgiojkhmkeocfaa

/- The code's reader, walked: the line between, the end of a side, a side. -/
namespace Go.Proofs.Ytgiojkhmkeocfaa
open Go.RowKit
attribute [local go_sem] ByteArray.extract_mk no_at

/-- all below B but the reader's block is as it was -/
structure Fr (B R : Nat) (w w' : World) : Prop where
  os : w'.os = w.os
  tape : w'.tape = w.tape
  output : w'.output = w.output
  size : w.heap.size ≤ w'.heap.size
  block : ∀ k, k < B → k ≠ R → w'.heap[k]? = w.heap[k]?
theorem Fr.refl (B R : Nat) (w : World) : Fr B R w w := ⟨rfl, rfl, rfl, Nat.le_refl _, fun _ _ _ => rfl⟩
theorem Fr.trans {B R : Nat} {w u v : World} (h : Fr B R w u) (h' : Fr B R u v) : Fr B R w v := ⟨h'.os.trans h.os, h'.tape.trans h.tape, h'.output.trans h.output, Nat.le_trans h.size h'.size, fun k h1 h2 => (h'.block k h1 h2).trans (h.block k h1 h2)⟩
theorem Fr.of {B R : Nat} {w u : World} (h : w.grownBy u (some R)) (hB : B ≤ w.heap.size) : Fr B R w u := ⟨h.os, h.tape, h.output, h.size, fun k h1 h2 => h.block k (Nat.lt_of_lt_of_le h1 hB) (fun e => h2 (Option.some.inj e))⟩
theorem Fr.own {B R : Nat} {w u : World} {g : Option Nat} (h : w.grownBy u g) (hB : B ≤ w.heap.size) (hg : ∀ j, g = some j → B ≤ j) : Fr B R w u := ⟨h.os, h.tape, h.output, h.size, fun k h1 _ => h.block k (Nat.lt_of_lt_of_le h1 hB) (fun e => by have := hg k e.symm; omega)⟩
theorem Fr.low {B R : Nat} {w u : World} (h : Below w.heap.size w u) (hB : B ≤ w.heap.size) : Fr B R w u := Fr.of (low_grown h _) hB
theorem Fr.grown {R : Nat} {w u : World} (h : Fr w.heap.size R w u) : w.grownBy u (some R) := ⟨h.os, h.tape, h.output, h.size, fun k h1 h2 => h.block k h1 (fun e => h2 (by rw [e]))⟩
end Go.Proofs.Ytgiojkhmkeocfaa

/- The code's reader, walked: the end of a side. -/
namespace Go.Proofs.Ytgiojkhmkeocfaa
open Go.RowKit
attribute [local go_sem] ByteArray.extract_mk no_at

theorem pkM_at {L : List (List UInt8)} (hP : Plain L) {p : Nat} (h : p < L.length) : pkM (L.drop p) = (L[p] == markT) := by
  rw [List.drop_eq_getElem_cons h]
  unfold pkM
  rw [Bool.eq_iff_iff, beq_iff_eq]
  constructor
  · intro q
    exact mark_eq (hP _ (List.getElem_mem h)) q
  · intro q
    rw [q]
    show markT.isPrefixOf markT = true
    decide
end Go.Proofs.Ytgiojkhmkeocfaa

/- The code's reader, walked: a side of a hunk. -/
namespace Go.Proofs.Ytgiojkhmkeocfaa
open Go.RowKit
attribute [local go_sem] ByteArray.extract_mk no_at

theorem owns_fr {w u : World} {B R : Nat} {e : TypeId} {s : Nat} {v : Value} {n : Nat} {xs : List Value} (h : w.ownsRow B e s v n xs) (hg : w.grownBy u (some R)) (hR : R < B) : u.ownsRow B e s v n xs := by
  refine ⟨h.1, ?_⟩
  rcases h.2 with q | ⟨g, cap, cur, rfl, q2, q3, q4⟩
  · exact .inl q
  · refine .inr ⟨g, cap, cur, rfl, q2, ?_, q4⟩
    rw [hg.block g (Array.getElem?_eq_some_iff.1 q3).1 (fun e => by cases e; omega)]
    exact q3
theorem pre_feed {sg s : List UInt8} (h : ∀ c ∈ sg, c ≠ 10) : Lib.hasPrefix (s ++ [10]) sg = sg.isPrefixOf s := by
  unfold Lib.hasPrefix
  rw [Bool.eq_iff_iff, List.isPrefixOf_iff_prefix, List.isPrefixOf_iff_prefix]
  constructor
  · intro hp
    have hp2 := List.prefix_iff_eq_take.1 hp
    by_cases hl : sg.length ≤ s.length
    · rw [List.take_append_of_le_length hl] at hp2
      exact List.prefix_iff_eq_take.2 hp2
    · exfalso
      have h3 : (s ++ [10]).take sg.length = s ++ [10] := List.take_of_length_le (by simp; omega)
      rw [h3] at hp2
      exact h 10 (by rw [hp2]; simp) rfl
  · rintro ⟨t, rfl⟩
    exact ⟨t ++ [10], by simp⟩
theorem trim_feed {sg s : List UInt8} (h : ∀ c ∈ sg, c ≠ 10) (hp : sg.isPrefixOf s = true) : Lib.trimPrefix (s ++ [10]) sg = s.drop sg.length ++ [10] := by
  unfold Lib.trimPrefix
  rw [pre_feed h, if_pos hp, List.drop_append_of_le_length]
  exact (List.isPrefixOf_iff_prefix.1 hp).length_le
def thenL (m : List Mk) (X : Except (Nat × Int) (List Mk × Nat × List (List UInt8))) : Except (Nat × Int) (List Mk × Nat × List (List UInt8)) :=
  match X with
  | .error e => .error e
  | .ok (l, p1, r) => .ok (m ++ l, p1, r)
theorem thenL_nil (X : Except (Nat × Int) (List Mk × Nat × List (List UInt8))) : thenL [] X = X := by
  unfold thenL
  rcases X with e | ⟨l, p, r⟩ <;> rfl
theorem rdL_succ {sg : List UInt8} {S : Int} {n p : Nat} {ls r : List (List UInt8)} {s : List UInt8} (h : nxt p ls = .ok (s, r)) (m : List Mk) : thenL m (rdL sg S (n + 1) p ls) = if sg.isPrefixOf s = true then thenL (m ++ [⟨S, s.drop sg.length ++ [10]⟩]) (rdL sg S n (p + 1) r) else .error (p + 1, 3) := by
  simp only [rdL]
  rw [h]
  dsimp only
  split
  · cases rdL sg S n (p + 1) r with
    | error e => rfl
    | ok z => simp [thenL]
  · rfl
theorem nxt_rest {p : Nat} {L r : List (List UInt8)} {s : List UInt8} (h : nxt p (L.drop p) = .ok (s, r)) : r = L.drop (p + 1) ∧ p < L.length ∧ ∃ hp : p < L.length, L[p] = s ++ [10] := by
  have h1 := nxt_ok h
  have hp : p < L.length := by
    by_cases h2 : p < L.length
    · exact h2
    · rw [List.drop_eq_nil_of_le (by omega)] at h1
      cases h1
  have h3 := List.drop_eq_getElem_cons hp
  rw [h3] at h1
  injection h1 with h4 h5
  exact ⟨h5.symm, hp, hp, h4⟩
end Go.Proofs.Ytgiojkhmkeocfaa

/- The plain Parse of the reference, walked anew over the normal form's texts. -/
namespace Go.Proofs.Ytgiojkhmkeocfaa
open Pn Go.RowKit
attribute [local go_sem] no_at

theorem ret_pair {k k' : IntKind} {a b a' b' : Int} (h : a = a') (h' : b = b') : Ending.returned (.tuple #[.int k a, .int k' b]) = .returned (.tuple #[.int k a', .int k' b']) := by rw [h, h']
end Go.Proofs.Ytgiojkhmkeocfaa

/- The code's isNumber and Parse of layer 1, walked anew over the normal form's texts: what they return is what the plain functions isNum, parseV and parseE say. -/
namespace Go.Proofs.Ytgiojkhmkeocfaa
open Pn Go.RowKit
attribute [local go_sem] no_at

end Go.Proofs.Ytgiojkhmkeocfaa

/- strings.IndexAny at the letters a, c, d, and strings.Cut at a comma, for every text. -/
namespace Go.Proofs.Ytgiojkhmkeocfaa
open Go.RowKit
attribute [local go_sem] no_at ByteArray.extract_mk

theorem ret_int1 {k : IntKind} {a b : Int} (h : a = b) : Ending.returned (.int k a) = .returned (.int k b) := by rw [h]
theorem get_bang (s : ByteArray) (k : Nat) (h : k < s.size) : s.get! k = s[k] := by
  simp [ByteArray.get!, getElem!_pos, h]
  rfl

/-- every byte of a letter that begins with a byte from 128 on is such a byte, and lies in the text -/
theorem decode_rest (s : ByteArray) (pos : Nat) (h : pos < s.size) (ha : 128 ≤ (s[pos]'h).toNat) (k : Nat) (hk : k < (Utf8.decode s pos).2) : ∃ hq : pos + k < s.size, 128 ≤ (s[pos + k]'hq).toNat := by
  by_cases hk0 : k = 0
  · subst hk0; exact ⟨h, ha⟩
  have hn : ¬ (s.get! (pos + 0)).toNat < 128 := by rw [Nat.add_zero, get_bang s pos h]; omega
  have key : ∀ j, (decide (pos + j < s.size) && (s.get! (pos + j)).toNat / 64 == 2) = true → ∃ hq : pos + j < s.size, 128 ≤ (s[pos + j]'hq).toNat := by
    intro j hj
    simp only [Bool.and_eq_true, decide_eq_true_eq, beq_iff_eq] at hj
    refine ⟨hj.1, ?_⟩
    rw [← get_bang s (pos + j) hj.1]
    omega
  revert hk
  unfold Utf8.decode
  simp only [hn, if_false]
  split
  · rename_i h2
    simp only [Bool.and_eq_true] at h2
    split
    · intro hk
      have : k = 1 := by simp at hk; omega
      subst this
      exact key 1 (by simp only [Bool.and_eq_true]; exact h2.2)
    · intro hk; simp at hk; omega
  · split
    · rename_i h2
      simp only [Bool.and_eq_true] at h2
      split
      · intro hk
        have : k = 1 ∨ k = 2 := by simp at hk; omega
        rcases this with rfl | rfl
        · exact key 1 (by simp only [Bool.and_eq_true]; exact h2.1.2)
        · exact key 2 (by simp only [Bool.and_eq_true]; exact h2.2)
      · intro hk; simp at hk; omega
    · split
      · rename_i h2
        simp only [Bool.and_eq_true] at h2
        split
        · intro hk
          have : k = 1 ∨ k = 2 ∨ k = 3 := by simp at hk; omega
          rcases this with rfl | rfl | rfl
          · exact key 1 (by simp only [Bool.and_eq_true]; exact h2.1.1.2)
          · exact key 2 (by simp only [Bool.and_eq_true]; exact h2.1.2)
          · exact key 3 (by simp only [Bool.and_eq_true]; exact h2.2)
        · intro hk; simp at hk; omega
      · intro hk; simp at hk; omega

theorem enc_form (r : Int) (hv : Utf8.valid r = true) (h128 : 128 ≤ r) : (∃ a b : UInt8, 128 ≤ b.toNat ∧ Utf8.encode r = ⟨([a, b] : List UInt8).toArray⟩) ∨ (∃ a b c : UInt8, 128 ≤ c.toNat ∧ Utf8.encode r = ⟨([a, b, c] : List UInt8).toArray⟩) ∨ (∃ a b c d : UInt8, Utf8.encode r = ⟨([a, b, c, d] : List UInt8).toArray⟩) := by
  have hc : ¬ r.toNat < 128 := by omega
  unfold Utf8.encode
  simp only [hv, if_true, hc, if_false]
  split
  · refine .inl ⟨_, _, ?_, rfl⟩
    simp; omega
  · split
    · refine .inr (.inl ⟨_, _, _, ?_, rfl⟩)
      simp; omega
    · exact .inr (.inr ⟨_, _, _, _, rfl⟩)

theorem valid_of (r : Int) (h : Lib.validRune r = true) : Utf8.valid r = true := by
  simp [Lib.validRune, Utf8.valid] at h ⊢
  omega

theorem idx_nil (x : Int) (u : World) : Calls Try.prog 27 #[.string ⟨#[]⟩, .int .u8 x] u fun e w' => e = .returned (.int .i64 (-1)) ∧ w' = u := Try.strings_IndexByte ⟨#[]⟩ x u
theorem idx_d (b : UInt8) (hb : 128 ≤ b.toNat) (u : World) : Calls Try.prog 27 #[.string ⟨#[100]⟩, .int .u8 (b.toNat : Int)] u fun e w' => e = .returned (.int .i64 (-1)) ∧ w' = u := by
  refine (Try.strings_IndexByte ⟨#[100]⟩ (b.toNat : Int) u).mono ?_
  rintro e w' ⟨rfl, rfl⟩
  have e1 : ((b.toNat : Int).toNat).toUInt8 = b := by simp
  have e2 : Lib.indexByte [100] b = -1 := by
    have : ((100 : UInt8) == b) = false := by
      rw [beq_eq_false_iff_ne]
      rintro rfl
      simp at hb
    simp [Lib.indexByte, this]
  rw [e1]
  exact ⟨by rw [show Lib.indexByte (⟨#[100]⟩ : ByteArray).data.toList b = -1 from e2], rfl⟩

theorem idx_three (x : UInt8) : Lib.indexByte [97, 99, 100] x = if x.toNat = 97 then 0 else if x.toNat = 99 then 1 else if x.toNat = 100 then 2 else -1 := by
  have key : ∀ i : Fin 256, Lib.indexByte [97, 99, 100] (UInt8.ofNat i.val) = if i.val = 97 then 0 else if i.val = 99 then 1 else if i.val = 100 then 2 else -1 := by decide +kernel
  have := key ⟨x.toNat, x.toNat_lt⟩
  simpa using this
theorem isC_nat (x : UInt8) : isC x = decide (x.toNat = 97 ∨ x.toNat = 99 ∨ x.toNat = 100) := by
  rw [Bool.eq_iff_iff]
  simp [isC, ← UInt8.toNat_inj, or_assoc]

def idxB (x : UInt8) : Int := Lib.indexByte [97, 99, 100] x
theorem idxB_yes {x : UInt8} (h : isC x = true) : 0 ≤ idxB x := by
  rw [isC_nat] at h
  have h := of_decide_eq_true h
  unfold idxB; rw [idx_three]; split <;> (try split) <;> (try split) <;> omega
theorem idxB_no {x : UInt8} (h : isC x = false) : idxB x < 0 := by
  rw [isC_nat] at h
  have h := of_decide_eq_false h
  unfold idxB; rw [idx_three]; split <;> (try split) <;> (try split) <;> omega
theorem contains_three (c : UInt8) : ([97, 99, 100] : List UInt8).contains c = isC c := by
  rw [Bool.eq_iff_iff]
  simp [isC, or_assoc]
/-- where the first of the three letters is, or -1 -/
def wend (l : List UInt8) : Int := Lib.indexAny l [97, 99, 100]
theorem wend_at : ∀ (l : List UInt8) (k : Nat) (hk : k < l.length), (∀ j (h : j < l.length), j < k → isC l[j] = false) → isC l[k] = true → wend l = k
  | b :: l, 0, _, _, h => by
    unfold wend Lib.indexAny
    rw [contains_three, if_pos (by simpa using h)]
    rfl
  | b :: l, k + 1, hk, ha, h => by
    have h0 := ha 0 (by simp) (by omega)
    have ih := wend_at l k (by simpa using hk) (fun j hj hjk => ha (j + 1) (by simp; omega) (by omega)) (by simpa using h)
    unfold wend at ih ⊢
    unfold Lib.indexAny
    rw [contains_three, if_neg (by simpa using h0), ih]
    rw [if_neg (by simp)]
    omega

theorem wend_none : ∀ (l : List UInt8), (∀ j (h : j < l.length), isC l[j] = false) → wend l = -1
  | [], _ => rfl
  | b :: l, ha => by
    have h0 := ha 0 (by simp)
    have ih := wend_none l (fun j hj => ha (j + 1) (by simp; omega))
    unfold wend at ih ⊢
    unfold Lib.indexAny
    rw [contains_three, if_neg (by simpa using h0), ih]
    rfl

/-- where the first letter is, as the plain reader says -/
theorem wend_sp (l : List UInt8) : (spB isC l = none ∧ wend l = -1) ∨ (∃ k : Nat, ∃ h : k < l.length, wend l = k ∧ spB isC l = some (l.take k, l[k], l.drop (k + 1)) ∧ isC l[k] = true) := by
  induction l with
  | nil => exact .inl ⟨rfl, rfl⟩
  | cons c l ih =>
    unfold wend Lib.indexAny
    rw [contains_three]
    simp only [spB]
    cases hc : isC c with
    | true =>
      right
      refine ⟨0, by simp, by simp, by simp, by simpa using hc⟩
    | false =>
      rw [if_neg (by decide), if_neg (by decide)]
      rcases ih with ⟨h1, h2⟩ | ⟨k, hk, h1, h2, h3⟩
      · left
        unfold wend at h2
        rw [h1, h2]
        exact ⟨rfl, rfl⟩
      · right
        unfold wend at h1
        refine ⟨k + 1, by simpa using hk, ?_, ?_, by simpa using h3⟩
        · rw [h1, if_neg (by simp)]
          omega
        · rw [h2]
          rfl
/-- where a comma is -/
theorem comma_sp (l : List UInt8) : (spB isK l = none ∧ Lib.indexByte l 44 = -1) ∨ (∃ k : Nat, ∃ h : k < l.length, Lib.indexByte l 44 = k ∧ spB isK l = some (l.take k, l[k], l.drop (k + 1))) := by
  induction l with
  | nil => exact .inl ⟨rfl, rfl⟩
  | cons c l ih =>
    unfold Lib.indexByte
    simp only [spB]
    have e : (c == 44) = isK c := rfl
    rw [e]
    cases hc : isK c with
    | true =>
      right
      exact ⟨0, by simp, by simp, by simp⟩
    | false =>
      rw [if_neg (by decide), if_neg (by decide)]
      rcases ih with ⟨h1, h2⟩ | ⟨k, hk, h1, h2⟩
      · left
        rw [h1, h2]
        exact ⟨rfl, rfl⟩
      · right
        refine ⟨k + 1, by simpa using hk, ?_, ?_⟩
        · rw [h1, if_neg (by simp)]
          omega
        · rw [h2]
          rfl
end Go.Proofs.Ytgiojkhmkeocfaa

/- The code's numbers and change of layer 12, walked: a range of lines, a line that says a change. -/
namespace Go.Proofs.Ytgiojkhmkeocfaa
open Go.RowKit
attribute [local go_sem] ByteArray.extract_mk no_at

/-- what is ahead of the first comma, and behind it -/
def kA (l : List UInt8) : List UInt8 := match spB isK l with | none => l | some (x, _, _) => x
def kB (l : List UInt8) : List UInt8 := match spB isK l with | none => [] | some (_, _, y) => y
def kS (l : List UInt8) : Bool := match spB isK l with | none => false | some _ => true
/-- a text with a comma is no number -/
theorem comma_no {s : List UInt8} (h : kS s = true) : Pn.parseE s ≠ 0 := by
  unfold kS at h
  rcases comma_sp s with ⟨h1, _⟩ | ⟨k, hk, _, h2⟩
  · rw [h1] at h
    cases h
  · have hc : isK s[k] = true := (by
      have : ∀ (l : List UInt8) {a b : List UInt8} {c : UInt8}, spB isK l = some (a, c, b) → isK c = true := (by
        intro l
        induction l with
        | nil => intro a b c h; cases h
        | cons x l ih =>
          intro a b c h
          simp only [spB] at h
          split at h
          · rename_i hx
            cases h
            exact hx
          · split at h
            · cases h
            · rename_i hq
              cases h
              exact ih hq)
      exact this s h2)
    have hn : Pn.isNum s = false := Pn.isNum_bad k hk (by
      unfold isK at hc
      have : s[k] = 44 := by simpa using hc
      rw [this]
      decide)
    have := (Pn.parse_no hn).2
    omega
/-- a range, or the line ahead -/
def nmP (no : Bool) (s : List UInt8) : Option (Int × Int) := if no = true then oneP s else lnsP s
theorem kA_self {s : List UInt8} (h : kS s = false) : kA s = s ∧ spB isK s = none := by
  unfold kS at h
  unfold kA
  cases hq : spB isK s with
  | none => exact ⟨rfl, rfl⟩
  | some q => rw [hq] at h; cases h
theorem kS_some {s : List UInt8} (h : kS s = true) : ∃ c, spB isK s = some (kA s, c, kB s) := by
  unfold kS at h
  unfold kA kB
  cases hq : spB isK s with
  | none => rw [hq] at h; cases h
  | some q => exact ⟨q.2.1, rfl⟩
theorem nm_bad {no : Bool} {s : List UInt8} (h : Pn.parseE (kA s) ≠ 0) : nmP no s = none := by
  unfold nmP
  cases hk : kS s with
  | true =>
    obtain ⟨c, hc⟩ := kS_some hk
    have h2 := comma_no hk
    cases no with
    | true =>
      unfold oneP
      rw [if_pos rfl, if_neg h2]
    | false =>
      unfold lnsP
      rw [if_neg (by decide), hc]
      exact if_neg (fun q => h q.1)
  | false =>
    obtain ⟨h1, h2⟩ := kA_self hk
    rw [h1] at h
    cases no with
    | true =>
      unfold oneP
      rw [if_pos rfl, if_neg h]
    | false =>
      unfold lnsP
      rw [if_neg (by decide), h2]
      exact if_neg (fun q => h q.1)
theorem kA_le (s : List UInt8) : (kA s).length ≤ s.length ∧ (kB s).length ≤ s.length := by
  unfold kA kB
  rcases comma_sp s with ⟨h1, _⟩ | ⟨k, hk, _, h2⟩
  · rw [h1]; simp
  · rw [h2]; simp only [List.length_take, List.length_drop]; omega
/-- what numbers answers -/
def NmQ (w : World) (no : Bool) (s : List UInt8) (e : Ending) (w' : World) : Prop := ∃ x n r, e = .returned (.tuple #[.int .i64 x, .int .i64 n, .bool r]) ∧ nmP no s = (if r = true then some (x, n) else none) ∧ Below w.heap.size w w'
end Go.Proofs.Ytgiojkhmkeocfaa
