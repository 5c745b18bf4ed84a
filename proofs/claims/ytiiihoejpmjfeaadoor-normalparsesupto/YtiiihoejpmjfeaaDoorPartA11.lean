/-
  Texts that belong together, joined: NpS, NpP, NpRp, NpRq.
-/
import Derived.Test.YtiiihoejpmjfeaaDoorPartA6
import Derived.Test.YtiiihoejpmjfeaaDoorPartA3
import Derived.BigQuiet
import Derived.Test.YtiiihoejpmjfeaaDoorPartA10

/- The lines of a text: Split of layer lines and of the reference, walked anew over the normal form's texts. -/
namespace Go.Proofs.YtiiihoejpmjfeaaDoor
open Ln Go.RowKit
attribute [local go_sem] no_at ByteArray.extract_mk

theorem sc_snoc (ws : List (List UInt8)) (a : List UInt8) : scells (ws ++ [a]) = scells ws ++ [.string ⟨a.toArray⟩] := by simp [scells]
theorem sp_one (a : ByteArray) : ∀ u ∈ [Value.string a], u.oneCell' = true := by intro u hu; simp at hu; subst hu; rfl
theorem sp_cells (w : World) (C : List Value) (t : TypeId) : ∀ j u, C[j]? = some u → (w.alloc (.cells C.toArray t)).cell? ((⟨w.heap.size, 0, none⟩ : Addr).add j) = some u := by
  intro j u hj
  have hadd : (⟨w.heap.size, 0, none⟩ : Addr).add j = ⟨w.heap.size, j, none⟩ := by unfold Addr.add; split <;> simp_all
  rw [hadd, cell_of_row _ w.heap.size j C.toArray t (0, 0) (_root_.Go.heap_alloc_new w _)]
  simpa using hj

theorem sp_is10 {x : UInt8} (h : x = 10) : ((x.toNat : Int) == 10) = true ∧ ((x.toNat : Int) != 10) = false := by subst h; exact ⟨rfl, rfl⟩
theorem sp_not10 {x : UInt8} (h : x ≠ 10) : ((x.toNat : Int) == 10) = false ∧ ((x.toNat : Int) != 10) = true := by
  have h1 : x.toNat ≠ 10 := fun e => h (UInt8.toNat_inj.1 (by simpa using e))
  have h2 : ((x.toNat : Int) == 10) = false := beq_eq_false_iff_ne.2 (by omega)
  exact ⟨h2, by unfold bne; rw [h2]; rfl⟩

def sizeT : Value → Nat
  | .string s => s.size
  | _ => 0
theorem sizeT_mk (r : List UInt8) : sizeT (.string ⟨r.toArray⟩) = r.length := rfl
theorem acc_le {acc : List (List UInt8)} {r l : List UInt8} (h : acc ++ splitL r = splitL l) : acc.length ≤ l.length := by
  have h1 := congrArg List.length h
  have h2 := split_len l
  rw [List.length_append] at h1
  omega

set_option maxRecDepth 20000 in
set_option maxHeartbeats 2000000 in
theorem nSplit_f (l : List UInt8) (w : World) (hl : l.length ≤ 1099511627776) :
    Calls Tryd.prog 25 #[.string ⟨l.toArray⟩] w fun e w' => ∃ v, e = .returned v ∧ w'.ownsRow w.heap.size 9 1 v (splitL l).length (scells (splitL l)) ∧ Below w.heap.size w w' := by
  obtain ⟨i0, hi, hz0, hz1, hz2⟩ := info_parts infoStr
  go_enter Tryd.func25, Tryd.ntmps25
  go_wp2
  go_loopw [0, 3, 4] (fun s acc _ wr => ∃ (xs : List (List UInt8)) (r : List UInt8), s = .string ⟨r.toArray⟩ ∧ wr.ownsRow w.heap.size 9 1 acc xs.length (scells xs) ∧ Below w.heap.size w wr ∧ r.length ≤ l.length ∧ xs ++ splitL r = splitL l) (fun s _ _ _ => sizeT s)
  case atStart => exact ⟨[], l, rfl, World.ownsRow_nil _ _ _ _, Below.refl _ _, Nat.le_refl _, rfl⟩
  case round =>
    obtain ⟨acc, r, rfl, hown, hbr, hrl, hw⟩ := hrel
    have hacc := acc_le hw
    have HW : Hid (acc ++ splitL r = splitL l) := hw
    clear hw
    have hbz := hbr.size
    obtain ⟨ao, cap, rfl⟩ := (holds_of hown).form
    rcases Int.lt_or_le (Lib.indexByte r 10) 0 with hq | hq
    · obtain ⟨q1, q2⟩ := index_none hq
      clear hq
      cases r with
      | nil =>
        have HE : Hid (splitL l = acc) := by have := HW.out; show _ = _; simpa [splitL] using this.symm
        go_wp2_with fail
        refine (Tryd.strings_Index_one ⟨([] : List UInt8).toArray⟩ 10 _).mono ?_
        rintro e w1 ⟨rfl, rfl⟩
        go_wp2
        go_ret
        rw [HE.out]
        exact ⟨_, rfl, hown, hbr⟩
      | cons c t =>
        have HE : Hid (splitL l = acc ++ [c :: t]) := by
          have := HW.out
          rw [split_one _ q2 (by simp)] at this
          exact this.symm
        clear q2
        go_wp2_with fail
        refine (Tryd.strings_Index_one ⟨(c :: t).toArray⟩ 10 _).mono ?_
        rintro e w1 ⟨rfl, rfl⟩
        have hi2 : Lib.indexByte (⟨(c :: t).toArray⟩ : ByteArray).data.toList 10 = -1 := q1
        rw [hi2]
        go_wp2_with (at_builtin; refine wpList_append_own _ rfl _ _ 23 rfl w.heap.size 9 i0 (.string ⟨#[]⟩) 1 16 Tryd.underlying23 hi hz0 hz1 hz2 rfl (by decide) _ _ _ rfl (hown.alloc _) ⟨w1.heap.size, 0, none⟩ 1 1 [.string ⟨(c :: t).toArray⟩] rfl rfl (sp_cells _ _ _) (sp_one _) ?c3 ?c4 ?c5 ?_)
        case c3 => unfold maxLen; omega
        case c4 => omega
        case c5 => simp; omega
        intro v' w3 hown3 hgrow hfr
        have hbr3 := (hbr.alloc hbz (.cells #[.string ⟨(c :: t).toArray⟩] 9)).grown hgrow (by simp; omega) (fun j hj => (hown.lt j hj).1)
        go_wp2
        go_ret
        rw [HE.out, sc_snoc]
        exact ⟨_, rfl, by simpa using hown3, hbr3⟩
    · obtain ⟨a, b, rfl, hn, he⟩ := index_some hq
      have HE : Hid (acc ++ [a ++ [10]] ++ splitL b = splitL l) := by
        have := HW.out
        rw [split_cut a b hn] at this
        show _ = _
        simpa using this
      clear hn hq
      have hlen : (a ++ 10 :: b).length = a.length + 1 + b.length := by simp; omega
      have ht : (a ++ 10 :: b).take (a.length + 1) = a ++ [10] := by
        rw [show a ++ 10 :: b = (a ++ [10]) ++ b by simp, List.take_left' (by simp)]
      have hd : (a ++ 10 :: b).drop (a.length + 1) = b := by
        rw [show a ++ 10 :: b = (a ++ [10]) ++ b by simp, List.drop_left' (by simp)]
      generalize a ++ 10 :: b = r at *
      have i1 : 0 ≤ (a.length : Int) + 1 := by omega
      have i2 : (a.length : Int) + 1 ≤ (r.length : Int) := by omega
      have i3 : ((a.length : Int) + 1).toNat = a.length + 1 := by omega
      go_wp2_with fail
      refine (Tryd.strings_Index_one ⟨r.toArray⟩ 10 _).mono ?_
      rintro e w1 ⟨rfl, rfl⟩
      have hi2 : Lib.indexByte (⟨r.toArray⟩ : ByteArray).data.toList 10 = a.length := he
      rw [hi2]
      go_wp2_with (at_builtin; refine wpList_append_own _ rfl _ _ 23 rfl w.heap.size 9 i0 (.string ⟨#[]⟩) 1 16 Tryd.underlying23 hi hz0 hz1 hz2 rfl (by decide) _ _ _ rfl (hown.alloc _) ⟨w1.heap.size, 0, none⟩ 1 1 [.string ⟨(a ++ [10]).toArray⟩] rfl rfl (sp_cells _ _ _) (sp_one _) ?c3 ?c4 ?c5 ?_)
      case c3 => unfold maxLen; omega
      case c4 => omega
      case c5 => simp; omega
      intro v' w3 hown3 hgrow hfr
      have hbr3 := (hbr.alloc hbz (.cells #[.string ⟨(a ++ [10]).toArray⟩] 9)).grown hgrow (by simp; omega) (fun j hj => (hown.lt j hj).1)
      go_wp2
      go_roundw
      case rel => exact ⟨acc ++ [a ++ [10]], b, rfl, by rw [sc_snoc]; simpa using hown3, hbr3, by omega, HE.out⟩
      case measure => rw [sizeT_mk, sizeT_mk]; omega
def Clean (l : List UInt8) (p k : Nat) : Prop := ∀ c ∈ (l.drop p).take (k - p), c ≠ 10

theorem clean_refl (l : List UInt8) (k : Nat) : Clean l k k := by intro c hc; simp at hc
theorem clean_step {l : List UInt8} {p k : Nat} (h : Clean l p k) (hp : p ≤ k) (hk : k < l.length) (h10 : l[k] ≠ 10) : Clean l p (k + 1) := by
  intro c hc
  rw [show k + 1 - p = (k - p) + 1 by omega, List.take_succ_eq_append_getElem (by simp; omega)] at hc
  simp only [List.mem_append, List.mem_singleton] at hc
  rcases hc with hc | hc
  · exact h c hc
  · rw [hc]
    simpa [show p + (k - p) = k by omega] using h10
theorem clean_feed {l : List UInt8} {p k : Nat} (h : Clean l p k) (hp : p ≤ k) (hk : k < l.length) (h10 : l[k] = 10) : splitL (l.drop p) = (l.drop p).take (k + 1 - p) :: splitL (l.drop (k + 1)) := by
  have e : l.drop p = (l.drop p).take (k - p) ++ 10 :: l.drop (k + 1) := by
    have h1 := (List.take_append_drop (k - p) (l.drop p)).symm
    rw [List.drop_drop, show p + (k - p) = k by omega, List.drop_eq_getElem_cons hk, h10] at h1
    exact h1
  have e2 : (l.drop p).take (k + 1 - p) = (l.drop p).take (k - p) ++ [10] := by
    rw [show k + 1 - p = (k - p) + 1 by omega, List.take_succ_eq_append_getElem (by simp; omega)]
    simp [show p + (k - p) = k by omega, h10]
  rw [e2]
  conv => lhs; rw [e]
  exact split_cut _ _ h
theorem clean_end {l : List UInt8} {p : Nat} (h : Clean l p l.length) (hp : p < l.length) : splitL (l.drop p) = [l.drop p] := by
  refine split_one _ (fun c hc => h c ?_) (by intro e; have := congrArg List.length e; simp at this; omega)
  rw [List.take_of_length_le (by simp)]
  exact hc

set_option maxHeartbeats 2000000 in
theorem rSplit_f (l : List UInt8) (w : World) (hl : l.length ≤ 1099511627776) :
    Calls Tryd.prog 49 #[.string ⟨l.toArray⟩] w fun e w' => ∃ v, e = .returned v ∧ w'.ownsRow w.heap.size 9 1 v (splitL l).length (scells (splitL l)) ∧ Below w.heap.size w w' := by
  obtain ⟨i0, hi, hz0, hz1, hz2⟩ := info_parts infoStr
  go_enter Tryd.func49, Tryd.ntmps49
  go_wp2
  go_loopw [3, 4, 5] (fun acc ap i wr => ∃ (xs : List (List UInt8)) (p k : Nat), p ≤ k ∧ k ≤ l.length ∧ ap = .int .i64 p ∧ i = .int .i64 k ∧ wr.ownsRow w.heap.size 9 1 acc xs.length (scells xs) ∧ Below w.heap.size w wr ∧ Hid (Clean l p k) ∧ Hid (xs ++ splitL (l.drop p) = splitL l)) (fun _ _ i _ => l.length - (intOf i).toNat)
  case atStart => exact ⟨[], 0, 0, Nat.le_refl _, Nat.zero_le _, rfl, rfl, World.ownsRow_nil _ _ _ _, Below.refl _ _, clean_refl _ _, rfl⟩
  case round =>
    obtain ⟨acc, p, k, hp, hk, rfl, rfl, hown, hbr, HC, HW⟩ := hrel
    have hacc := acc_le HW.out
    have hbz := hbr.size
    obtain ⟨ao, cap, rfl⟩ := (holds_of hown).form
    by_cases hlt : k < l.length
    · by_cases h10 : l[k] = 10
      · have hb := (sp_is10 h10).1
        have HE : Hid (acc ++ [(l.drop p).take (k + 1 - p)] ++ splitL (l.drop (k + 1)) = splitL l) := by
          have := HW.out
          rw [clean_feed HC.out hp hlt h10] at this
          show _ = _
          simpa using this
        clear h10
        go_wp2_with (at_builtin; refine wpList_append_own _ rfl _ _ 23 rfl w.heap.size 9 i0 (.string ⟨#[]⟩) 1 16 Tryd.underlying23 hi hz0 hz1 hz2 rfl (by decide) _ _ _ rfl (hown.alloc _) ⟨wr.heap.size, 0, none⟩ 1 1 [.string ⟨((l.drop p).take (k + 1 - p)).toArray⟩] rfl rfl (sp_cells _ _ _) (sp_one _) ?c3 ?c4 ?c5 ?_)
        case c3 => unfold maxLen; omega
        case c4 => omega
        case c5 => simp; omega
        intro v' w3 hown3 hgrow hfr
        have hbr3 := (hbr.alloc hbz (.cells #[.string ⟨((l.drop p).take (k + 1 - p)).toArray⟩] 9)).grown hgrow (by simp; omega) (fun j hj => (hown.lt j hj).1)
        go_wp2
        go_roundw
        case rel => exact ⟨acc ++ [(l.drop p).take (k + 1 - p)], k + 1, k + 1, Nat.le_refl _, by omega, by go_num, by go_num, by rw [sc_snoc]; simpa using hown3, hbr3, clean_refl _ _, HE.out⟩
        case measure => simp [intOf]; omega
      · have hb := (sp_not10 h10).1
        have HD : Hid (Clean l p (k + 1)) := clean_step HC.out hp hlt h10
        clear h10
        go_wp2
        go_roundw
        case rel => exact ⟨acc, p, k + 1, by omega, by omega, rfl, by go_num, hown, hbr, HD, HW⟩
        case measure => simp [intOf]; omega
    · have hke : k = l.length := by omega
      subst hke
      by_cases hpl : p < l.length
      · have HE : Hid (splitL l = acc ++ [(l.drop p).take (l.length - p)]) := by
          have := HW.out
          rw [clean_end HC.out hpl] at this
          show _ = _
          rw [List.take_of_length_le (by simp)]
          exact this.symm
        go_wp2_with (at_builtin; refine wpList_append_own _ rfl _ _ 23 rfl w.heap.size 9 i0 (.string ⟨#[]⟩) 1 16 Tryd.underlying23 hi hz0 hz1 hz2 rfl (by decide) _ _ _ rfl (hown.alloc _) ⟨wr.heap.size, 0, none⟩ 1 1 [.string ⟨((l.drop p).take (l.length - p)).toArray⟩] rfl rfl (sp_cells _ _ _) (sp_one _) ?c3 ?c4 ?c5 ?_)
        case c3 => unfold maxLen; omega
        case c4 => omega
        case c5 => simp; omega
        intro v' w3 hown3 hgrow hfr
        have hbr3 := (hbr.alloc hbz (.cells #[.string ⟨((l.drop p).take (l.length - p)).toArray⟩] 9)).grown hgrow (by simp; omega) (fun j hj => (hown.lt j hj).1)
        go_wp2
        go_ret
        rw [HE.out, sc_snoc]
        exact ⟨_, rfl, by simpa using hown3, hbr3⟩
      · have HE : Hid (splitL l = acc) := by
          have := HW.out
          rw [List.drop_of_length_le (by omega)] at this
          show _ = _
          simpa [splitL] using this.symm
        go_wp2
        go_ret
        rw [HE.out]
        exact ⟨_, rfl, hown, hbr⟩
end Go.Proofs.YtiiihoejpmjfeaaDoor

/- The code's Parse of the normal form, walked. -/
namespace Go.Proofs.YtiiihoejpmjfeaaDoor
open Go.RowKit

theorem mem_flatP {a : List (List UInt8)} {t : List UInt8} (h : t ∈ a) : t.length ≤ a.flatten.length := by
  induction a with
  | nil => cases h
  | cons s a ih =>
    rw [List.flatten_cons, List.length_append]
    rcases List.mem_cons.1 h with rfl | h
    · omega
    · have := ih h
      omega
theorem split_short {t : List UInt8} {M : Nat} (h : t.length ≤ M) : ∀ s ∈ Ln.splitL t, s.length ≤ M := by
  intro s hs
  have h1 := congrArg List.length (Ln.split_join t)
  have h2 := mem_flatP hs
  omega
theorem RdQ.base {w W : World} {X : Except (Nat × Int) (List Hk)} {e : Ending} {w' : World} (hB : Below w.heap.size w W) (h : RdQ W X e w') : RdQ w X e w' := by
  unfold RdQ at h ⊢
  rcases X with ⟨a, z⟩ | l
  · obtain ⟨g, h1, h2, h3⟩ := h
    exact ⟨g, h1, h2, hB.trans (h3.mono hB.size)⟩
  · obtain ⟨v, P, h1, h2, h3⟩ := h
    exact ⟨v, P, h1, h2.base hB, h3⟩
set_option maxHeartbeats 2000000 in
theorem nPars_f (t : List UInt8) (w : World) (hl : t.length ≤ 1099511627776) (X : Except (Nat × Int) (List Hk)) (HX : Hid (prsT t = X)) :
    Calls Tryd.prog 8 #[.string ⟨t.toArray⟩] w fun e w' => RdQ w X e w' := by
  have hX := HX.out
  clear HX
  rw [prs_code] at hX
  by_cases hlong : 1048576 < t.length
  · rw [if_pos hlong] at hX
    subst hX
    have HA : Hid ((w.alloc (fltO ((0 : Nat) : Int) 9)).heap[w.heap.size]? = some (fltO ((0 : Nat) : Int) 9) ∧ Below w.heap.size w (w.alloc (fltO ((0 : Nat) : Int) 9))) := ⟨heap_alloc_new w _, (Below.refl _ w).alloc (Nat.le_refl _) _⟩
    have i1 : (1048576 : Int) < (t.length : Int) := by omega
    go_enter Tryd.func8, Tryd.ntmps8
    go_wp2
    go_ret2
    exact ⟨_, rfl, HA.out.1, HA.out.2⟩
  · rw [if_neg hlong] at hX
    have HX2 : Hid (hksK (Ln.splitL t).length 0 0 (Ln.splitL t) = X) := hX
    have hsl := Ln.split_len t
    have HSl : Hid (∀ s ∈ Ln.splitL t, s.length ≤ 1048576) := split_short (by omega)
    have HPl : Hid (Plain (Ln.splitL t)) := split_plain t
    have hs := nSplit_f t w hl
    have i1 : ¬ (1048576 : Int) < (t.length : Int) := by omega
    clear hX
    generalize Ln.splitL t = L at *
    go_enter Tryd.func8, Tryd.ntmps8
    go_wp2_with fail
    refine hs.mono ?_
    rintro e w1 ⟨v, rfl, hown, hb⟩
    have hL : HS w1 v L := holds_of hown
    obtain ⟨lo, lc, rfl⟩ := Holds.form hL
    go_wp2_with fail
    refine (nread_f L lo lc w1 hL HPl (by omega) HSl X HX2).mono ?_
    intro e w2 hq
    have hq2 := RdQ.base hb hq
    clear hq
    cases X with
    | error z =>
      obtain ⟨a, z⟩ := z
      obtain ⟨g, rfl, h1, h2⟩ := hq2
      go_wp2
      go_ret2
      exact ⟨g, rfl, h1, h2⟩
    | ok l =>
      obtain ⟨v', P, rfl, h1, h2⟩ := hq2
      obtain ⟨o, c, rfl⟩ := (holds_of h1.own).form
      go_wp2
      go_ret2
      exact ⟨_, P, rfl, h1, h2⟩
end Go.Proofs.YtiiihoejpmjfeaaDoor

/- The reference's Read of layer 12, walked. -/
namespace Go.Proofs.YtiiihoejpmjfeaaDoor
open Go.RowKit

set_option maxHeartbeats 2000000 in
theorem rRead_long (t : List UInt8) (w : World) (hlong : 1048576 < t.length) :
    Calls Tryd.prog 26 #[.string ⟨t.toArray⟩] w fun e w' => e = .returned (.pointer (some ⟨w.heap.size, 0, none⟩)) ∧ Rx w' w.heap.size (.slice none 0 0) 0 0 9 ∧ Below w.heap.size w w' := by
  have HA : Hid (Rx (w.alloc (rdO (.slice none 0 0) 0 0 9)) w.heap.size (.slice none 0 0) 0 0 9 ∧ Below w.heap.size w (w.alloc (rdO (.slice none 0 0) 0 0 9))) := ⟨heap_alloc_new w _, (Below.refl _ w).alloc (Nat.le_refl _) _⟩
  have i1 : (1048576 : Int) < (t.length : Int) := by omega
  go_enter Tryd.func26, Tryd.ntmps26
  go_wp2
  go_ret
  exact ⟨rfl, HA.out.1, HA.out.2⟩
set_option maxHeartbeats 2000000 in
theorem rRead_f (t : List UInt8) (w : World) (hl : t.length ≤ 1048576) :
    Calls Tryd.prog 26 #[.string ⟨t.toArray⟩] w fun e w' => ∃ R lo lc, e = .returned (.pointer (some ⟨R, 0, none⟩)) ∧ Rx w' R (.slice lo (Ln.splitL t).length lc) 0 0 0 ∧ w'.ownsRow w.heap.size 9 1 (.slice lo (Ln.splitL t).length lc) (Ln.splitL t).length (scells (Ln.splitL t)) ∧ (∀ a, lo = some a → a.block ≠ R) ∧ w.heap.size ≤ R ∧ Below w.heap.size w w' := by
  have hs := rSplit_f t w (by omega)
  have i1 : ¬ (1048576 : Int) < (t.length : Int) := by omega
  generalize Ln.splitL t = L at *
  go_enter Tryd.func26, Tryd.ntmps26
  go_wp2_with fail
  refine hs.mono ?_
  rintro e w1 ⟨v, rfl, hown, hb⟩
  have hL : HS w1 v L := holds_of hown
  obtain ⟨lo, lc, rfl⟩ := Holds.form hL
  have HA : Hid (Rx (w1.alloc (rdO (.slice lo L.length lc) 0 0 0)) w1.heap.size (.slice lo L.length lc) 0 0 0 ∧ (w1.alloc (rdO (.slice lo L.length lc) 0 0 0)).ownsRow w.heap.size 9 1 (.slice lo L.length lc) L.length (scells L) ∧ (∀ a, lo = some a → a.block ≠ w1.heap.size) ∧ w.heap.size ≤ w1.heap.size ∧ Below w.heap.size w (w1.alloc (rdO (.slice lo L.length lc) 0 0 0))) := (by
    refine ⟨heap_alloc_new w1 _, hown.alloc _, ?_, hb.size, hb.alloc hb.size _⟩
    intro a ha e
    rcases hown.2 with ⟨h1, _⟩ | ⟨g, cap, cur, h1, _, h2, _⟩
    · injection h1 with h3 _ _
      rw [h3] at ha
      cases ha
    · cases h1
      cases ha
      have := (Array.getElem?_eq_some_iff.1 h2).1
      dsimp only at e
      omega)
  clear hs hb
  go_wp2
  go_ret
  exact ⟨_, _, _, rfl, HA.out⟩
end Go.Proofs.YtiiihoejpmjfeaaDoor

/- The reference's Parse of layer 12: what its variables hold. -/
namespace Go.Proofs.YtiiihoejpmjfeaaDoor
open Go.RowKit

/-- Parse's own variables: the hunks, the fault that is answered -/
structure Pr (w : World) (R : Nat) (ov : Value) (P : List (Hk × Value)) (u : World) : Prop where
  hs : Hs w ov P u
  fb : u.heap[w.heap.size]? = some (.cells #[.int .i64 0, .int .i64 0] 35)
  hR : w.heap.size < R
section
variable {w u u' : World} {R : Nat} {ov : Value} {P : List (Hk × Value)}
theorem Pr.call (h : Pr w R ov P u) {vL : Value} {p fa fe : Int} (q : Rx u R vL p fa fe) (hg : u.grownBy u' (some R)) : Pr w R ov P u' := by
  have h1 := h.hR
  refine ⟨h.hs.grown hg (fun k e => by cases e; omega) (fun k e => by cases e; exact own_box h.hs.own q (by decide)) (fun x hx k e => by cases e; exact own_box (h.hs.ins x hx) q (by decide)), ?_, h.hR⟩
  exact (hg.block _ (Array.getElem?_eq_some_iff.1 h.fb).1 (fun e => by have := Option.some.inj e; omega)).trans h.fb
theorem Pr.dN (h : Pr w R ov P u) (n : Nat) : Pr w R ov P (u.drewN n) := ⟨h.hs.drewN n, h.fb, h.hR⟩
theorem Pr.alloc (h : Pr w R ov P u) (o : Obj) : Pr w R ov P (u.alloc o) := ⟨h.hs.alloc o, (Lib.alloc_old u o _ (Array.getElem?_eq_some_iff.1 h.fb).1).trans h.fb, h.hR⟩
theorem Pr.more (h : Pr w R ov P u) {x : Hk} {y ov' : Value} (hy : u.ownsRow w.heap.size 81 2 y x.ls.length (mkcells x.ls)) (hg : u.grownBy u' ov.ownBlock) (ho : u'.ownsRow w.heap.size 43 5 ov' (P.length + 1) (hkcells P ++ hkC x y)) :
    Pr w R ov' (P ++ [(x, y)]) u' ∧ ∀ {vL : Value} {p fa fe : Int}, Rx u R vL p fa fe → Rx u' R vL p fa fe :=
  ⟨⟨h.hs.more hy hg ho, (hg.block _ (Array.getElem?_eq_some_iff.1 h.fb).1 (fun e => own_box h.hs.own h.fb (by decide) e.symm)).trans h.fb, h.hR⟩, fun q => q.keep hg (fun e => own_box h.hs.own q (by decide) e.symm)⟩
end
/-- where the reader stands between two hunks -/
def AlP (R : Nat) (vL : Value) (L : List (List UInt8)) (X : Except (Nat × Int) (List Hk)) (P : List (Hk × Value)) (u : World) : Prop :=
  (∃ p f : Nat, Rx u R vL (p : Int) 0 0 ∧ p ≤ L.length ∧ P.length ≤ p ∧ (L.drop p).length ≤ f ∧ thenH (P.map (·.1)) (hksP f P.length p (L.drop p)) = X) ∨ (∃ (p' : Int) (a : Nat) (fe : Int), Rx u R vL p' (a : Int) fe ∧ fe ≠ 0 ∧ X = .error (a, fe))
/-- how much is left -/
def rmAt (u : World) (R n : Nat) : Nat := match u.heap[R]? with
  | some (.cells cs _ _) => match cs[1]?, cs[3]? with
    | some (Value.int _ p), some (Value.int _ fe) => if fe = 0 then n + 1 - p.toNat else 0
    | _, _ => 0
  | _ => 0
theorem rmAt_ok {u : World} {R n : Nat} {vL : Value} {p : Nat} {fa : Int} (h : Rx u R vL (p : Int) fa 0) : rmAt u R n = n + 1 - p := by
  unfold Rx rdO at h
  unfold rmAt
  rw [h]
  simp
theorem rmAt_no {u : World} {R n : Nat} {vL : Value} {p fa fe : Int} (h : Rx u R vL p fa fe) (hf : fe ≠ 0) : rmAt u R n = 0 := by
  unfold Rx rdO at h
  unfold rmAt
  rw [h]
  simp [hf]
set_option maxHeartbeats 1000000 in
theorem rMore_no {R : Nat} {n c : Nat} {lo : Option Addr} {p fa fe : Int} (w : World) (q : Rx w R (.slice lo n c) p fa fe) (hf : fe ≠ 0) :
    Calls Tryd.prog 27 #[.pointer (some ⟨R, 0, none⟩)] w fun x w' => x = .returned (.bool false) ∧ ∃ m, w' = w.drewN m := by
  obtain ⟨c0, c1, c2, c3⟩ := q.cells
  clear q
  have h1 : (fe == 0) = false := beq_eq_false_iff_ne.2 hf
  go_enter Tryd.func27, Tryd.ntmps27
  go_wp2_with fail
  go_quiet (fail)
  go_wp2
  go_ret
  exact ⟨rfl, _, rfl⟩
theorem hksP_step {f k p p1 : Nat} {ls r : List (List UInt8)} {h : Hk} (hne : ls ≠ []) (hk : hkP k p ls = .ok (h, p1, r)) (l : List Hk) : thenH l (hksP (f + 1) k p ls) = thenH (l ++ [h]) (hksP f (k + 1) p1 r) := by
  simp only [hksP]
  rw [if_neg hne, hk]
  dsimp only
  cases hksP f (k + 1) p1 r with
  | error e => rfl
  | ok m => simp [thenH]
theorem hksP_stop {f k p : Nat} {ls : List (List UInt8)} {e : Nat × Int} (hne : ls ≠ []) (hk : hkP k p ls = .error e) (l : List Hk) : thenH l (hksP (f + 1) k p ls) = .error e := by
  simp only [hksP]
  rw [if_neg hne, hk]
  rfl
/-- a row stays where another block is written -/
theorem row_far {u u' : World} {B : Nat} {e : TypeId} {s n : Nat} {v : Value} {xs : List Value} (h : u.ownsRow B e s v n xs) {g : Option Nat} (hg : u.grownBy u' g) (hne : ∀ k, g = some k → v.ownBlock ≠ some k) : u'.ownsRow B e s v n xs := by
  refine ⟨h.1, ?_⟩
  rcases h.2 with q | ⟨b, cap, cur, rfl, q2, q3, q4⟩
  · exact .inl q
  · refine .inr ⟨b, cap, cur, rfl, q2, ?_, q4⟩
    rw [hg.block b (Array.getElem?_eq_some_iff.1 q3).1 (fun e => hne b e.symm rfl)]
    exact q3
theorem row_two {u u' : World} {B B' : Nat} {e e' : TypeId} {s n s' n' : Nat} {v v' : Value} {xs xs' : List Value} (h : u.ownsRow B e s v n xs) (h' : u.ownsRow B' e' s' v' n' xs') (hne : e' ≠ e) (hg : u.grownBy u' v'.ownBlock) : u'.ownsRow B e s v n xs := by
  refine ⟨h.1, ?_⟩
  rcases h.2 with q | ⟨b, cap, cur, rfl, q2, q3, q4⟩
  · exact .inl q
  · refine .inr ⟨b, cap, cur, rfl, q2, ?_, q4⟩
    rw [hg.block b (Array.getElem?_eq_some_iff.1 q3).1 (fun e => own_box h' q3 hne e.symm)]
    exact q3
/-- what the reference's Parse answers -/
def RpQ (w : World) (X : Except (Nat × Int) (List Hk)) (e : Ending) (w' : World) : Prop :=
  match X with
  | .error (a, z) => e = .returned (.tuple #[.slice none 0 0, .agg #[.int .i64 (a : Int), .int .i64 z]]) ∧ Below w.heap.size w w'
  | .ok l => ∃ v' P, e = .returned (.tuple #[v', .agg #[.int .i64 0, .int .i64 0]]) ∧ Hs w v' P w' ∧ P.map (·.1) = l
end Go.Proofs.YtiiihoejpmjfeaaDoor
