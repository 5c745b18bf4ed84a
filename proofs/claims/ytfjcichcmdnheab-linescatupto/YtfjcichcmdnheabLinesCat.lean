/-
  For every two texts of together at most 1048576 letters and values, the law LinesCat returns true and leaves its arguments as they were: the lines of two texts, one behind the other, are those of the one and then of the other, the last of the first and the first of the second being one where the first lacks its line feed. The condition is the statement's own bound on what comes in; nothing else is asked.
-/
import Derived.Test.YtfjcichcmdnheabRows
import Derived.Test.YtfjcichcmdnheabLnCat
import Derived.ProofKit
import Derived.OpenShut
import Derived.JoinedCond
namespace Go.Proofs.Ytfjcichcmdnheab.linesCat
open Go.ChangeShapes Go.WideShapes Go.ChangeAt Go.RowKit
open Go.ChangeMaps (open_string shut_string)
open Ln
attribute [local go_sem] ba_at ByteArray.extract_mk ba_cat

theorem own : ownKnob Try.prog.godebug = none := by kernel_rfl

theorem feed_of {l : List UInt8} (h0 : 0 < l.length) (h : l[l.length - 1] = 10) : feedB l = true := by
  unfold feedB; rw [List.getLast?_eq_getElem?, List.getElem?_eq_getElem (by omega), h]; rfl
theorem feed_no {l : List UInt8} (h0 : 0 < l.length) (h : l[l.length - 1] ≠ 10) : feedB l = false := by
  unfold feedB; rw [List.getLast?_eq_getElem?, List.getElem?_eq_getElem (by omega)]; simpa using h

set_option maxHeartbeats 1000000 in
theorem walk_plain (a b : List UInt8) (w : World) (ha : a.length ≤ 1048576) (hb : b.length ≤ 1048576) (hp : a = [] ∨ b = [] ∨ (∃ h : 0 < a.length, a[a.length - 1] = 10)) :
    Calls Try.prog 3 #[.string ⟨a.toArray⟩, .string ⟨b.toArray⟩] w fun e w' => e = .returned (.bool true) ∧ Below w.heap.size w w' := by
  have HS : Hid (splitL (a ++ b) = splitL a ++ splitL b) := by
    show _ = _
    rcases hp with h | h | ⟨h0, h⟩
    · exact split_cat a b (.inl h)
    · subst h; simp [splitL]
    · exact split_cat a b (.inr (feed_of h0 h))
  have hla := split_len a
  have hlb := split_len b
  have hll : (splitL a ++ splitL b).length ≤ 1099511627776 := by rw [List.length_append]; omega
  go_enter Try.func3, Try.ntmps3
  go_wp2_with fail
  refine (works_any _).mono ?_
  rintro e w1 ⟨rfl, hb1⟩
  go_wp2_with fail
  refine (Split_any a _ (by omega)).mono ?_
  rintro e w2 ⟨vx, rfl, hownx, hb2⟩
  have hbb2 := hb1.trans (hb2.mono hb1.size)
  go_wp2_with fail
  refine (Split_any b _ (by omega)).mono ?_
  rintro e w3 ⟨vy, rfl, howny, hb3⟩
  have hbb3 := hbb2.trans (hb3.mono hbb2.size)
  have hx3 := (holds_of hownx).keep hb3.block
  have hy3 := holds_of howny
  clear hownx howny hb1 hb2 hb3 hbb2
  have hnil : (w3.alloc (.cells #[] 9)).ownsRow w.heap.size 9 1 (.slice (some ⟨w3.heap.size, 0, none⟩) 0 0) ([] : List (List UInt8)).length (scells []) := World.ownsRow_lit w3 #[] 0 hbb3.size (by decide) rfl
  have hx4 := hx3.keep (w' := w3.alloc (.cells #[] 9)) (fun k hk => Below.heap_alloc w3 _ k hk)
  have hy4 := hy3.keep (w' := w3.alloc (.cells #[] 9)) (fun k hk => Below.heap_alloc w3 _ k hk)
  have hb4 : Below w3.heap.size w3 (w3.alloc (.cells #[] 9)) := (Below.refl _ w3).alloc (Nat.le_refl _) _
  go_wp2_with (at_builtin; refine wpList_append_holds _ rfl _ _ rfl w.heap.size _ [] rfl hnil vx (splitL a) rfl hx4 ?c1 ?c2 ?_)
  case c1 => simp; omega
  case c2 => have := hbb3.size; simp; omega
  intro v5 w5 hown5 hg5
  have hbb5 : Below w.heap.size w w5 := (hbb3.alloc hbb3.size (.cells #[] 9)).grown hg5 (by have := hbb3.size; simp; omega) (fun j hj => (hnil.lt j hj).1)
  have hy5 := hy3.keep (w' := w5) (fun k hk => (hg5.block k (by simp; omega) (by simp [Value.ownBlock]; omega)).trans (Below.heap_alloc w3 _ k hk))
  have hx5 := hx3.keep (w' := w5) (fun k hk => (hg5.block k (by simp; omega) (by simp [Value.ownBlock]; omega)).trans (Below.heap_alloc w3 _ k hk))
  replace hown5 : w5.ownsRow w.heap.size 9 1 v5 (splitL a).length (scells (splitL a)) := hown5
  clear hx4 hy4 hb4
  go_wp2_with (at_builtin; refine wpList_append_holds _ rfl _ _ rfl w.heap.size _ (splitL a) rfl hown5 vy (splitL b) rfl hy5 ?c1 ?c2 ?_)
  case c1 => omega
  case c2 => exact hbb5.size
  intro v6 w6 hown6 hg6
  have hbb6 := hbb5.grown hg6 hbb5.size (fun j hj => (hown5.lt j hj).1)
  have hs6 : Srow w6 v6 (splitL a ++ splitL b) := srow_of (by rw [List.length_append]; exact hown6)
  clear hx5 hy5 hg5 hg6 hnil hx3 hy3 hown6
  rcases Nat.eq_zero_or_pos a.length with h0 | h0
  · obtain rfl := List.eq_nil_of_length_eq_zero h0
    go_wp2_with fail
    refine (Split_any b _ (by omega)).mono ?_
    rintro e w7 ⟨vz, rfl, hownz, hb7⟩
    have HS2 : splitL b = splitL [] ++ splitL b := HS.out
    rw [HS2] at hownz
    go_wp2_with fail
    refine (Same_any vz v6 (splitL [] ++ splitL b) _ hll (srow_of hownz) (hs6.keep hb7.block)).mono ?_
    rintro e w8 ⟨rfl, n8, rfl⟩
    go_wp2
    go_ret
    exact ⟨rfl, below_drewN (hbb6.trans (hb7.mono hbb6.size)) _⟩
  · have hi0 : 0 ≤ (a.length : Int) - 1 := by omega
    have hi1 : (a.length : Int) - 1 < (a.length : Int) := by omega
    have hi2 : ((a.length : Int) - 1).toNat = a.length - 1 := by omega
    have han : a ≠ [] := List.length_pos_iff.1 h0
    by_cases h10 : a[a.length - 1] = 10
    · have hb10 := (is10 h10).2
      go_wp2_with fail
      refine (Split_any (a ++ b) _ (by simp; omega)).mono ?_
      rintro e w7 ⟨vz, rfl, hownz, hb7⟩
      rw [HS.out] at hownz
      go_wp2_with fail
      refine (Same_any vz v6 (splitL a ++ splitL b) _ hll (srow_of hownz) (hs6.keep hb7.block)).mono ?_
      rintro e w8 ⟨rfl, n8, rfl⟩
      go_wp2
      go_ret
      exact ⟨rfl, below_drewN (hbb6.trans (hb7.mono hbb6.size)) _⟩
    · have hb10 := (not10 h10).2
      have hbe : b = [] := by
        rcases hp with h | h | ⟨_, h⟩
        · exact absurd h han
        · exact h
        · exact absurd h h10
      subst hbe
      go_wp2_with fail
      refine (Split_any a _ (by omega)).mono ?_
      rintro e w7 ⟨vz, rfl, hownz, hb7⟩
      have HS2 : splitL a = splitL a ++ splitL [] := by rw [← HS.out, List.append_nil]
      rw [HS2] at hownz
      go_wp2_with fail
      refine (Same_any vz v6 (splitL a ++ splitL []) _ hll (srow_of hownz) (hs6.keep hb7.block)).mono ?_
      rintro e w8 ⟨rfl, n8, rfl⟩
      go_wp2
      go_ret
      exact ⟨rfl, below_drewN (hbb6.trans (hb7.mono hbb6.size)) _⟩

set_option maxHeartbeats 4000000 in
set_option maxRecDepth 100000 in
theorem walk_glue (a b : List UInt8) (w : World) (ha : a.length ≤ 1048576) (hb : b.length ≤ 1048576) (h0 : 0 < a.length) (h10 : a[a.length - 1] ≠ 10) (hbn : b ≠ []) :
    Calls Try.prog 3 #[.string ⟨a.toArray⟩, .string ⟨b.toArray⟩] w fun e w' => e = .returned (.bool true) ∧ Below w.heap.size w w' := by
  have han : a ≠ [] := List.length_pos_iff.1 h0
  obtain ⟨p, x, y, q, ea, eb, eg⟩ := split_glue a b han (feed_no h0 h10) hbn
  have hla := split_len a
  have hlb := split_len b
  rw [ea] at hla
  rw [eb] at hlb
  simp only [List.length_append, List.length_cons, List.length_nil] at hla hlb
  have hxl := split_piece ea
  have hyl := split_piece (p := []) eb
  have hxy : ¬ 9223372036854775807 < x.length + y.length := by omega
  have HA : Hid (splitL a = p ++ [x]) := ea
  have HB : Hid (splitL b = y :: q) := eb
  have HG : Hid (splitL (a ++ b) = p ++ (x ++ y) :: q) := eg
  clear ea eb eg
  have hi0 : 0 ≤ (a.length : Int) - 1 := by omega
  have hi1 : (a.length : Int) - 1 < (a.length : Int) := by omega
  have hi2 : ((a.length : Int) - 1).toNat = a.length - 1 := by omega
  have hb10 := (not10 h10).2
  have hae : a.isEmpty = false := by simpa using han
  have hbe : b.isEmpty = false := by simpa using hbn
  have hll : (p ++ (x ++ y) :: q).length ≤ 1099511627776 := by simp; omega
  go_enter Try.func3, Try.ntmps3
  go_wp2_with fail
  refine (works_any _).mono ?_
  rintro e w1 ⟨rfl, hb1⟩
  go_wp2_with fail
  refine (Split_any a _ (by omega)).mono ?_
  rintro e w2 ⟨vx, rfl, hownx, hb2⟩
  have hbb2 := hb1.trans (hb2.mono hb1.size)
  go_wp2_with fail
  refine (Split_any b _ (by omega)).mono ?_
  rintro e w3 ⟨vy, rfl, howny, hb3⟩
  have hbb3 := hbb2.trans (hb3.mono hbb2.size)
  rw [HA.out] at hownx
  rw [HB.out] at howny
  have hownx3 := ownsRow_keep hownx hb3.block
  have hlx : (p ++ [x]).length = p.length + 1 := by simp
  have hly : (y :: q).length = q.length + 1 := rfl
  obtain ⟨gx, cx, hvx, hcx, hgx, hcellx⟩ := ownsRow_some hownx3 (by simp)
  obtain ⟨gy, cy, hvy, hcy, hgy, hcelly⟩ := ownsRow_some howny (by simp)
  have hx3 := holds_of hownx3
  have hy3 := holds_of howny
  rw [hlx] at hvx hcx
  rw [hly] at hvy hcy
  subst hvx hvy
  have cx3 : w3.cell? ⟨gx, p.length, none⟩ = some (.string ⟨x.toArray⟩) := by
    have := hcellx p.length (by simp)
    simpa using this
  have cp3 : Holds w3 (.slice (some ⟨gx, 0, none⟩) p.length cx) p := by
    refine .inr ⟨⟨gx, 0, none⟩, cx, rfl, fun j u hj => ?_⟩
    have hjl : j < p.length := by have := (List.getElem?_eq_some_iff.1 hj).1; rwa [scells_length] at this
    have := hcellx j (by simp; omega)
    have hadd : (⟨gx, 0, none⟩ : Addr).add j = ⟨gx, j, none⟩ := by unfold Addr.add; split <;> simp_all
    rw [hadd, this]
    simp [scells, hjl] at hj
    rw [← hj]
    simp [hjl]
  have cy3 : w3.cell? ⟨gy, 0, none⟩ = some (.string ⟨y.toArray⟩) := hcelly 0 (by simp)
  have cq3 : Holds w3 (.slice (some ⟨gy, 1, none⟩) q.length (cy - 1)) q := by
    refine .inr ⟨⟨gy, 1, none⟩, cy - 1, rfl, fun j u hj => ?_⟩
    have hjl : j < q.length := by have := (List.getElem?_eq_some_iff.1 hj).1; rwa [scells_length] at this
    have := hcelly (j + 1) (by simp; omega)
    have hadd : (⟨gy, 1, none⟩ : Addr).add j = ⟨gy, j + 1, none⟩ := by unfold Addr.add; split <;> simp_all [Nat.add_comm]
    rw [hadd, this]
    simp [scells, hjl] at hj
    rw [← hj]
    simp
  clear hcellx hcelly hownx howny hb1 hb2 hb3 hbb2 hownx3
  have hnil : (w3.alloc (.cells #[] 9)).ownsRow w3.heap.size 9 1 (.slice (some ⟨w3.heap.size, 0, none⟩) 0 0) ([] : List (List UInt8)).length (scells []) := World.ownsRow_lit w3 #[] 0 (Nat.le_refl _) (by decide) rfl
  have hx4 := hx3.keep (w' := w3.alloc (.cells #[] 9)) (fun k hk => Below.heap_alloc w3 _ k hk)
  go_wp2_with (at_builtin; refine wpList_append_holds _ rfl _ _ rfl w3.heap.size _ [] rfl hnil _ (p ++ [x]) rfl hx4 ?c1 ?c2 ?_)
  case c1 => simp; omega
  case c2 => simp
  intro v5 w5 hown5 hg5
  have hbb5 : Below w3.heap.size w3 w5 := ((Below.refl _ w3).alloc (Nat.le_refl _) (.cells #[] 9)).grown hg5 (by simp) (fun j hj => (hnil.lt j hj).1)
  replace hown5 : w5.ownsRow w3.heap.size 9 1 v5 (p ++ [x]).length (scells (p ++ [x])) := by rw [hlx]; simpa using hown5
  have hy5 := hy3.keep hbb5.block
  go_wp2_with (at_builtin; refine wpList_append_holds _ rfl _ _ rfl w3.heap.size _ (p ++ [x]) rfl hown5 _ (y :: q) rfl hy5 ?c1 ?c2 ?_)
  case c1 => rw [hlx, hly]; omega
  case c2 => exact hbb5.size
  intro v6 w6 _ hg6
  have hb6 := hbb5.grown hg6 hbb5.size (fun j hj => (hown5.lt j hj).1)
  have hbb6 := hbb3.trans (hb6.mono hbb3.size)
  have cx6 : w6.cell? ⟨gx, p.length, none⟩ = some (.string ⟨x.toArray⟩) := (hb6.cell (p := ⟨gx, p.length, none⟩) hgx).trans cx3
  have cy6 : w6.cell? ⟨gy, 0, none⟩ = some (.string ⟨y.toArray⟩) := (hb6.cell (p := ⟨gy, 0, none⟩) hgy).trans cy3
  have cp6 := cp3.keep hb6.block
  have cq6 := cq3.keep hb6.block
  have hgx6 : gx < w6.heap.size := Nat.lt_of_lt_of_le hgx hb6.size
  have hgy6 : gy < w6.heap.size := Nat.lt_of_lt_of_le hgy hb6.size
  clear hx3 hy3 hx4 hy5 hown5 hg5 hg6 hnil cx3 cy3 cp3 cq3 hb6 hbb5 hgx hgy hbb3
  have i1 : 0 ≤ (p.length : Int) := by omega
  have i2 : (p.length : Int) ≤ (p.length : Int) + 1 := by omega
  have i3 : (p.length : Int) < (p.length : Int) + 1 := by omega
  have i4 : (p.length : Int) ≤ (cx : Int) := by omega
  have wr : IntKind.i64.wrap (p.length : Int) = (p.length : Int) := wrap_i64 (by omega) (by omega)
  go_wp2_with fail
  go_cut [7] from 36 to 52 (fun z wz => wz.ownsRow w6.heap.size 9 1 z (p ++ [x ++ y]).length (scells (p ++ [x ++ y])) ∧ Below w6.heap.size w6 wz)
  case first =>
    go_region_law (first
      | (refine step_cat1 w6 rfl (.tmp 36) (.tmp 40) rfl _ rfl (by first | exact alloc_at _ _ | exact alloc_old _ _ _ | exact alloc_new _ _ _) (by simp) (by first | exact ((Below.refl _ w6).alloc (Nat.le_refl _) _).drew | exact (((Below.refl _ w6).alloc (Nat.le_refl _) _).alloc (by simp) _).drew) _ p rfl cp6 (by omega) ?_; intro v7 w7 hown7 hg7 hb7; have cx7 := (hb7.cell (p := ⟨gx, p.length, none⟩) hgx6).trans cx6; have cy7 := (hb7.cell (p := ⟨gy, 0, none⟩) hgy6).trans cy6)
      | (refine step_cat2 w6 rfl (.tmp 41) (.tmp 51) rfl _ p rfl (by first | exact hown7 | exact World.ownsRow.alloc hown7 _) (by first | exact hb7 | exact hb7.alloc hb7.size _) _ (x ++ y) rfl (by first | (exact _root_.Go.heap_alloc_new _ _) | (exact (hg7.block _ (by simp <;> omega) (by simp)).trans (by first | exact alloc_at _ _ | exact alloc_old _ _ _ | exact alloc_new _ _ _))) (by omega) ?_; intro v8 w8 hown8 hb8))
    all_goals
      go_wp2_with fail
      go_meet
      case rel => exact ⟨hown8, hb8⟩
  case rest =>
    by_cases hcy1 : cy = 1
    · subst hcy1
      obtain rfl : q = [] := List.eq_nil_of_length_eq_zero (by omega)
      obtain ⟨hown8, hb8⟩ := hcut
      have hbb8 : Below w.heap.size w wc := hbb6.trans (hb8.mono hbb6.size)
      have cq8 := cq6.keep hb8.block
      clear cp6 cq6 cx6 cy6
      go_wp2_with (at_builtin; (refine wpList_append_holds _ rfl _ _ rfl w6.heap.size _ (p ++ [x ++ y]) rfl hown8 _ [] rfl (Or.inr ⟨_, _, rfl, fun j u hj => by simp [scells] at hj⟩) ?c1 ?c2 ?_))
      case c1 => simp; omega
      case c2 => exact hb8.size
      intro v9 w9 hown9 hg9
      have hbb9 := hbb8.grown hg9 hbb8.size (fun j hj => Nat.le_trans hbb6.size (hown8.lt j hj).1)
      have hs9 : Srow w9 v9 (p ++ (x ++ y) :: []) := srow_of (ws := p ++ (x ++ y) :: []) (by simpa using hown9)
      clear hown9 hg9
      go_wp2_with fail
      refine (Split_any (a ++ b) _ (by simp; omega)).mono ?_
      rintro e w10 ⟨vz, rfl, hownz, hb10'⟩
      rw [HG.out] at hownz
      go_wp2_with fail
      refine (Same_any vz v9 (p ++ (x ++ y) :: []) _ hll (srow_of hownz) (hs9.keep hb10'.block)).mono ?_
      rintro e w11 ⟨rfl, n11, rfl⟩
      go_wp2
      go_ret
      exact ⟨rfl, below_drewN (hbb9.trans (hb10'.mono hbb9.size)) _⟩
    · have s1 : (1 : Int) ≤ (q.length : Int) + 1 := by omega
      have s2 : ¬ cy - 1 = 0 := by omega
      have s3 : ¬ (cy : Int) - 1 = 0 := by omega
      have s4 : ((q.length : Int) + 1 - 1).toNat = q.length := by omega
      obtain ⟨hown8, hb8⟩ := hcut
      have hbb8 : Below w.heap.size w wc := hbb6.trans (hb8.mono hbb6.size)
      have cq8 := cq6.keep hb8.block
      clear cp6 cq6 cx6 cy6
      go_wp2_with (at_builtin; (refine wpList_append_holds _ rfl _ _ rfl w6.heap.size _ (p ++ [x ++ y]) rfl hown8 _ q rfl cq8 ?c1 ?c2 ?_))
      case c1 => simp; omega
      case c2 => exact hb8.size
      intro v9 w9 hown9 hg9
      have hbb9 := hbb8.grown hg9 hbb8.size (fun j hj => Nat.le_trans hbb6.size (hown8.lt j hj).1)
      have hs9 : Srow w9 v9 (p ++ (x ++ y) :: q) := srow_of (ws := p ++ (x ++ y) :: q) (by simpa using hown9)
      clear hown9 hg9
      go_wp2_with fail
      refine (Split_any (a ++ b) _ (by simp; omega)).mono ?_
      rintro e w10 ⟨vz, rfl, hownz, hb10'⟩
      rw [HG.out] at hownz
      go_wp2_with fail
      refine (Same_any vz v9 (p ++ (x ++ y) :: q) _ hll (srow_of hownz) (hs9.keep hb10'.block)).mono ?_
      rintro e w11 ⟨rfl, n11, rfl⟩
      go_wp2
      go_ret
      exact ⟨rfl, below_drewN (hbb9.trans (hb10'.mono hbb9.size)) _⟩

theorem short2 {H : Type} {s q : ByteArray} (hk : Rows.uptoSmall H [.lit (.string s.data.toList), .lit (.string q.data.toList)] = true) : s.data.toList.length ≤ 1048576 ∧ q.data.toList.length ≤ 1048576 := by
  have h : Rows.uptoBulkAll [DataW.lit (H := H) (.string s.data.toList), .lit (.string q.data.toList)] ≤ 1048576 := of_decide_eq_true hk
  simp only [Rows.uptoBulkAll, Rows.uptoBulk] at h
  omega

theorem walk (a b : List UInt8) (w : World) (ha : a.length ≤ 1048576) (hb : b.length ≤ 1048576) :
    Calls Try.prog 3 #[.string ⟨a.toArray⟩, .string ⟨b.toArray⟩] w fun e w' => e = .returned (.bool true) ∧ Below w.heap.size w w' := by
  rcases Nat.eq_zero_or_pos a.length with h0 | h0
  · exact walk_plain a b w ha hb (.inl (List.eq_nil_of_length_eq_zero h0))
  · by_cases hbn : b = []
    · exact walk_plain a b w ha hb (.inr (.inl hbn))
    · by_cases h10 : a[a.length - 1] = 10
      · exact walk_plain a b w ha hb (.inr (.inr ⟨h0, h10⟩))
      · exact walk_glue a b w ha hb h0 h10 hbn

theorem contract (H : Type) (enc : TypeId × Value → H) (W : World) (base : Nat) (args : Array Value) (ds gs : List (DataW H)) (before : List MemPlace)
    (hval : ∀ (j : Nat) t v, Try.f3.params[j]? = some t → args[j]? = some v → Value.okWide Try.prog W .any base t v)
    (hW : DataW.Whole enc Try.prog Try.f3.params.toList Rows.linesCatSpec.vars false W args.toList ds gs before) (hk : Rows.uptoSmall H (ds ++ gs) = true) :
    Calls Try.prog 3 args W fun e W' => ∃ v, e = .returned v ∧ Rows.linesCatSpec.post enc Try.prog Try.f3 false true false false W args v W' := by
  have hW' := hW
  obtain ⟨p, q, hA0, hV, rfl, hfz, hnd⟩ := hW
  have hA : DataW.TrodAll enc Try.prog W 0 (fun _ => true) true Try.f3.params.toList args.toList ds p := hA0
  rw [Try.params3] at hA hval
  obtain ⟨v0, vs0, d0, ds0, p0, q0, hargs, rfl, rfl, h0, r0⟩ := trodAll_cons hA
  obtain ⟨v1, vs1, d1, ds1, p1, q1, rfl, rfl, rfl, h1, r1⟩ := trodAll_cons r0
  obtain ⟨rfl, rfl, rfl⟩ := trodAll_nil r1
  obtain rfl : args = #[v0, v1] := by cases args; simp_all
  obtain ⟨rfl, rfl⟩ := trodVars_none hV
  obtain ⟨a0, rfl, rfl, rfl, w0⟩ := open_string Try.underlying9 (hval 0 9 v0 rfl rfl) h0
  obtain ⟨a1, rfl, rfl, rfl, w1⟩ := open_string Try.underlying9 (hval 1 9 v1 rfl rfl) h1
  clear hA0
  simp only [List.append_nil] at hW' hk
  obtain ⟨s0, s1⟩ := short2 hk
  have hw := walk a0.data.toList a1.data.toList W s0 s1
  refine hw.mono fun e W' ⟨he, hg⟩ => ?_
  subst he
  exact ⟨_, rfl, _, _, _, [], _, [], hW', trodAll_mk1 (shut_bool Try.underlying4 _), trodAll_cons_mk (shut_string Try.underlying9 w0) (trodAll_cons_mk (shut_string Try.underlying9 w1) trodAll_mk0), rfl, hg.frame _, fun h => by cases h⟩

set_option maxRecDepth 100000 in
theorem lifted (os : Os) (started : os.Started) (H : Type) (enc : TypeId × Value → H) (F : Stop.Interp) :
    ReturnsInHanded {} Try.checked os 3 .any ((Rows.OpenSpec.upto Rows.linesCatSpec).pre6 enc Try.prog Try.f3 Rows.linesCatUptoRow.domain false) (((Rows.OpenSpec.upto Rows.linesCatSpec).at F).post enc Try.prog Try.f3 false true false false) := by
  refine returnsInHanded_of_cond (C := Try.checked) (s := Rows.OpenSpec.upto Rows.linesCatSpec) (k := Rows.uptoSmall) rfl own started (by kernel_rfl) Try.func3
    (OpenSpec.witness (enc := enc) (C := Try.checked) (s := Rows.OpenSpec.upto Rows.linesCatSpec) (k := Rows.uptoSmall) rfl false ⟨#[], #[.string .empty, .string .empty], []⟩ 8 (by kernel_rfl) (by kernel_rfl) (by kernel_rfl)
      (x := ([.lit (.string []), .lit (.string [])], [], [])) (by kernel_rfl) rfl (by kernel_rfl)) ?_
  intro W base args ds gs before hval hW _ hk _
  exact contract H enc W base args ds gs before hval hW hk

theorem proved : Rows.LinesCatUptoSaid :=
  OpenClaim.holds_of_cond 3 Try.f3 rfl rfl rfl rfl rfl rfl rfl ⟨rfl, rfl, rfl, rfl, rfl⟩ rfl rfl rfl rfl rfl (by kernel_rfl) Try.func3 (by kernel_rfl)
    (of_decide_eq_true (by kernel_rfl)) (by unfold Func.isWrapper; first | (rw [if_pos (by decide +kernel)]; kernel_rfl) | (rw [if_neg (by decide +kernel)]; exact ⟨rfl, rfl⟩))
    (fun os started H enc _ F => lifted os started H enc F)
#print axioms proved
end Go.Proofs.Ytfjcichcmdnheab.linesCat
