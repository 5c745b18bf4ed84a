/-
  For every list of texts and every list of numbers of together at most 1048576 letters and values, the law NumList returns true and leaves its arguments as they were: quoted texts that stand in a line, with any blanks and tabs between and around, are its words. The conditions are the statement's own bound and the card's: the listed tables hold what the program's text lays.
-/
import Derived.Test.YtoelblofdgimfaaDoorWorks
import Derived.Test.YtoelblofdgimfaaDoorSame
import Derived.Test.YtoelblofdgimfaaDoorLMath
namespace Go.Proofs.YtoelblofdgimfaaDoor.numList
open Go.RowKit
open Q Pn
attribute [local go_sem] ba_at ba_cat ByteArray.extract_mk

/-- a slice value holds these numbers -/
def Grow (w : World) (v : Value) (zs : List Int) : Prop :=
  (zs = [] ∧ ∃ ao cap, v = .slice ao 0 cap) ∨ (0 < zs.length ∧ ∃ b off cap, v = .slice (some ⟨b, off, none⟩) zs.length cap ∧ ∀ j (h : j < zs.length), w.cell? ⟨b, off + j, none⟩ = some (.int .i64 zs[j]))

theorem Grow.keep {w w' : World} {v : Value} {zs : List Int} (h : Grow w v zs) (hk : ∀ k, k < w.heap.size → w'.heap[k]? = w.heap[k]?) : Grow w' v zs := by
  rcases h with h | ⟨h0, b, off, cap, hv, hc⟩
  · exact .inl h
  · refine .inr ⟨h0, b, off, cap, hv, fun j hj => ?_⟩
    have h1 := hc j hj
    have hlt := World.block_lt_of_cell? w _ h1
    rw [World.cell?_of_block (w := w) (w' := w') (hk b hlt)]
    exact h1

theorem below_keep {w u : World} (h : Below w.heap.size w u) : ∀ k, k < w.heap.size → u.heap[k]? = w.heap[k]? := h.block

theorem kk_of (z : Int) : ∃ kk : Nat, kk < 4 ∧ wrap64 ((IntKind.u64.wrap z).tmod 4) = (kk : Int) := by
  have h : 0 ≤ IntKind.u64.wrap z := by simp [IntKind.wrap, IntKind.bits, IntKind.signed]; omega
  have e : (IntKind.u64.wrap z).tmod 4 = IntKind.u64.wrap z % 4 := Int.tmod_eq_emod_of_nonneg h
  refine ⟨(IntKind.u64.wrap z % 4).toNat, by omega, ?_⟩
  rw [e]
  unfold wrap64
  omega

set_option maxHeartbeats 1500000 in
set_option maxRecDepth 100000 in
theorem walk (vg : Value) (ao : Option Addr) (cap : Nat) (ws : List (List UInt8)) (zs : List Int) (w : World) (hS : Srow w (.slice ao ws.length cap) ws) (_hcap : ws.length ≤ cap) (_hcm : cap ≤ maxLen) (hG : Grow w vg zs) (hwb : ∀ a ∈ ws, a.length ≤ 1048576) (hzl : zs.length ≤ 1048576) (h32 : ws.length ≤ 32) (HT : Hid (Tabbed w)) :
    Calls Tryd.prog 6 #[.slice ao ws.length cap, vg] w fun e w' => e = .returned (.bool true) ∧ Below w.heap.size w w' := by
  have HS : Hid (Srow w (.slice ao ws.length cap) ws) := hS
  have HG : Hid (Grow w vg zs) := hG
  have HWB : Hid (∀ a ∈ ws, a.length ≤ 1048576) := hwb
  clear hS hG hwb
  go_enter Tryd.func6, Tryd.ntmps6
  go_wp2_with fail
  refine (works_any _ HT.out).mono ?_
  rintro e w1 ⟨rfl, hb1⟩
  go_wp2
  go_loopw [5, 6] (fun s i wr => ∃ (k : Nat) (ps : List (List UInt8 × List UInt8)), k ≤ ws.length ∧ i = .int .i64 k ∧ s = .string ⟨(flat ps).toArray⟩ ∧ gapsOk ps ∧ ps.map (·.2) = ws.take k ∧ (flat ps).length ≤ k * 3145742 ∧ Below w.heap.size w wr) (fun _ i _ => ws.length - (intOf i).toNat)
  case atStart => exact ⟨0, [], Nat.zero_le _, rfl, rfl, trivial, rfl, by simp [flat], hb1⟩
  case round =>
    obtain ⟨k, ps, hk, rfl, rfl, hgo, hmap, hfl, hbr⟩ := hrel
    have HM : Hid (gapsOk ps ∧ ps.map (·.2) = ws.take k) := ⟨hgo, hmap⟩
    clear hgo hmap
    by_cases hlt : k < ws.length
    · rcases HS.out with ⟨h, _⟩ | ⟨b, off, cp, hv, hc⟩
      · rw [h] at hlt; simp at hlt
      have hcell : wr.cell? ⟨b, off + k, none⟩ = some (.string ⟨ws[k].toArray⟩) := by
        have h1 := hc k hlt
        rw [World.cell?_of_block (w := w) (w' := wr) (hbr.block b (World.block_lt_of_cell? w _ h1))]
        exact h1
      simp only [Value.slice.injEq] at hv
      obtain ⟨rfl, _, rfl⟩ := hv
      have hql := quote_length ws[k]
      have hwk := HWB.out ws[k] (List.getElem_mem hlt)
      rcases HG.out with ⟨h, ga, gc, rfl⟩ | ⟨hz0, gb, go, gc, rfl, hgc⟩
      · by_cases hk0 : (0 : Int) < (k : Int)
        · have HNX : Hid (∃ ps', gapsOk ps' ∧ ps'.map (·.2) = ws.take (k + 1) ∧ flat ps' = flat ps ++ [32] ++ quote ws[k] ∧ (flat ps').length ≤ (k + 1) * 3145742) := next_ok hlt HM.out.1 HM.out.2 (by decide) (fun _ => by simp) (by simp) hfl hwk
          go_wp2_with fail
          refine (Quote_any ws[k] _ (by omega)).mono ?_
          rintro e w4 ⟨rfl, hb4⟩
          have hbr4 := hbr.trans (hb4.mono hbr.size)
          go_wp2
          obtain ⟨ps', n1, n2, n3, n4⟩ := HNX.out
          refine ⟨⟨k + 1, ps', by omega, by go_num, ?_, n1, n2, n4, hbr4⟩, by simp [intOf]; omega⟩
          rw [n3]
          simp
        · obtain rfl : k = 0 := by omega
          have hc0 : wr.cell? ⟨b, off, none⟩ = some (.string ⟨ws[0].toArray⟩) := hcell
          clear hk0
          have HNX : Hid (∃ ps', gapsOk ps' ∧ ps'.map (·.2) = ws.take (0 + 1) ∧ flat ps' = flat ps ++ [] ++ quote ws[0] ∧ (flat ps').length ≤ (0 + 1) * 3145742) := next_ok hlt HM.out.1 HM.out.2 (by simp) (fun h => by omega) (by simp) hfl hwk
          go_wp2_with fail
          refine (Quote_any ws[0] _ (by omega)).mono ?_
          rintro e w4 ⟨rfl, hb4⟩
          have hbr4 := hbr.trans (hb4.mono hbr.size)
          go_wp2
          obtain ⟨ps', n1, n2, n3, n4⟩ := HNX.out
          refine ⟨⟨0 + 1, ps', by omega, by go_num, ?_, n1, n2, n4, hbr4⟩, by simp [intOf]; omega⟩
          rw [n3]
          simp
      · have hm : k % zs.length < zs.length := Nat.mod_lt _ hz0
        have hgcell : wr.cell? ⟨gb, go + k % zs.length, none⟩ = some (.int .i64 zs[k % zs.length]) := by
          have h1 := hgc _ hm
          rw [World.cell?_of_block (w := w) (w' := wr) (hbr.block gb (World.block_lt_of_cell? w _ h1))]
          exact h1
        generalize zs[k % zs.length] = z at *
        obtain ⟨kk, hkk, hkz⟩ := kk_of z
        have hz1 : (0 : Int) < (zs.length : Int) := by omega
        by_cases hk0 : (0 : Int) < (k : Int)
        · have HNX : Hid (∃ ps', gapsOk ps' ∧ ps'.map (·.2) = ws.take (k + 1) ∧ flat ps' = flat ps ++ gap kk ++ quote ws[k] ∧ (flat ps').length ≤ (k + 1) * 3145742) := next_ok hlt HM.out.1 HM.out.2 (gap_blank kk) (fun _ => gap_ne kk) (gap_len kk) hfl hwk
          go_wp2_with fail
          refine (Quote_any ws[k] _ (by omega)).mono ?_
          rintro e w4 ⟨rfl, hb4⟩
          have hbr4 := hbr.trans (hb4.mono hbr.size)
          go_wp2
          obtain ⟨ps', n1, n2, n3, n4⟩ := HNX.out
          refine ⟨⟨k + 1, ps', by omega, by go_num, ?_, n1, n2, n4, hbr4⟩, by simp [intOf]; omega⟩
          rw [n3]
          simp [gap]
        · obtain rfl : k = 0 := by omega
          have hc0 : wr.cell? ⟨b, off, none⟩ = some (.string ⟨ws[0].toArray⟩) := hcell
          have hg0 : wr.cell? ⟨gb, go, none⟩ = some (.int .i64 z) := by
            have e : go + 0 % zs.length = go := by simp
            rw [e] at hgcell; exact hgcell
          clear hk0 hgcell
          by_cases hk1 : (1 : Int) < (kk : Int)
          · have HNX : Hid (∃ ps', gapsOk ps' ∧ ps'.map (·.2) = ws.take (0 + 1) ∧ flat ps' = flat ps ++ gap kk ++ quote ws[0] ∧ (flat ps').length ≤ (0 + 1) * 3145742) := next_ok hlt HM.out.1 HM.out.2 (gap_blank kk) (fun _ => gap_ne kk) (gap_len kk) hfl hwk
            go_wp2_with fail
            refine (Quote_any ws[0] _ (by omega)).mono ?_
            rintro e w4 ⟨rfl, hb4⟩
            have hbr4 := hbr.trans (hb4.mono hbr.size)
            go_wp2
            obtain ⟨ps', n1, n2, n3, n4⟩ := HNX.out
            refine ⟨⟨0 + 1, ps', by omega, by go_num, ?_, n1, n2, n4, hbr4⟩, by simp [intOf]; omega⟩
            rw [n3]
            simp [gap]
          · have HNX : Hid (∃ ps', gapsOk ps' ∧ ps'.map (·.2) = ws.take (0 + 1) ∧ flat ps' = flat ps ++ [] ++ quote ws[0] ∧ (flat ps').length ≤ (0 + 1) * 3145742) := next_ok hlt HM.out.1 HM.out.2 (by simp) (fun h => by omega) (by simp) hfl hwk
            go_wp2_with fail
            refine (Quote_any ws[0] _ (by omega)).mono ?_
            rintro e w4 ⟨rfl, hb4⟩
            have hbr4 := hbr.trans (hb4.mono hbr.size)
            go_wp2
            obtain ⟨ps', n1, n2, n3, n4⟩ := HNX.out
            refine ⟨⟨0 + 1, ps', by omega, by go_num, ?_, n1, n2, n4, hbr4⟩, by simp [intOf]; omega⟩
            rw [n3]
            simp
    · have HL := words_list ps HM.out.1 (by have := congrArg List.length HM.out.2; simp at this; omega)
      have hps : ps.map (·.2) = ws := by rw [HM.out.2, List.take_of_length_le (by omega)]
      rw [hps] at HL
      have HL2 : Hid (wordsL (flat ps ++ [9]) = ws ∧ wordsE (flat ps ++ [9]) = 0) := HL
      clear HL hps
      have hfl2 : (flat ps ++ [9]).length ≤ 4294967280 := by
        have : k * 3145742 ≤ 32 * 3145742 := Nat.mul_le_mul_right _ (by omega)
        simp; omega
      go_wp2_with fail
      refine (Words_any (flat ps ++ [9]) _ (by omega)).mono ?_
      rintro e w4 ⟨va, rfl, ha4, hb4⟩
      have hbr4 := hbr.trans (hb4.mono hbr.size)
      have hE : wordsE (flat ps ++ [9]) = 0 := HL2.out.2
      have hW := srow_of ha4
      rw [HL2.out.1] at hW
      have hV : Srow w4 (.slice ao ws.length cap) ws := HS.out.keep hbr4.block
      have HX : Hid (Srow w4 va ws ∧ Srow w4 (.slice ao ws.length cap) ws) := ⟨hW, hV⟩
      clear hW hV ha4
      go_wp2_with fail
      refine (Same_any va (.slice ao ws.length cap) ws _ (by omega) HX.out.1 HX.out.2).mono ?_
      rintro e w5 ⟨rfl, n5, rfl⟩
      go_wp2
      go_ret
      exact ⟨rfl, below_drewN hbr4 n5⟩
set_option maxHeartbeats 1500000 in
set_option maxRecDepth 100000 in
theorem walk2 (vg : Value) (b off n cap : Nat) (ws : List (List UInt8)) (zs : List Int) (w : World) (hn : 32 < n) (hcap : n ≤ cap) (hcm : cap ≤ maxLen) (hlen : ws.length = 32) (hcS : ∀ j (h : j < ws.length), w.cell? ⟨b, off + j, none⟩ = some (.string ⟨ws[j].toArray⟩)) (hG : Grow w vg zs) (hwb : ∀ a ∈ ws, a.length ≤ 1048576) (hzl : zs.length ≤ 1048576) (HT : Hid (Tabbed w)) :
    Calls Tryd.prog 6 #[.slice (some ⟨b, off, none⟩) n cap, vg] w fun e w' => e = .returned (.bool true) ∧ Below w.heap.size w w' := by
  have HS : Hid (Srow w (.slice (some ⟨b, off, none⟩) 32 cap) ws) := .inr ⟨b, off, cap, by rw [hlen], hcS⟩
  have HC : Hid (∀ j (h : j < ws.length), w.cell? ⟨b, off + j, none⟩ = some (.string ⟨ws[j].toArray⟩)) := hcS
  have HN : Hid (ws.length = 32) := hlen
  have h32 : ws.length ≤ 32 := by omega
  have h32' : 32 ≤ ws.length := by omega
  have hc32 : (32 : Int) ≤ (cap : Int) := by omega
  have hn32 : (32 : Int) < (n : Int) := by omega
  unfold maxLen at hcm
  have HG : Hid (Grow w vg zs) := hG
  have HWB : Hid (∀ a ∈ ws, a.length ≤ 1048576) := hwb
  clear hcS hlen hG hwb
  go_enter Tryd.func6, Tryd.ntmps6
  go_wp2_with fail
  refine (works_any _ HT.out).mono ?_
  rintro e w1 ⟨rfl, hb1⟩
  go_wp2
  go_loopw [5, 6] (fun s i wr => ∃ (k : Nat) (ps : List (List UInt8 × List UInt8)), k ≤ ws.length ∧ i = .int .i64 k ∧ s = .string ⟨(flat ps).toArray⟩ ∧ gapsOk ps ∧ ps.map (·.2) = ws.take k ∧ (flat ps).length ≤ k * 3145742 ∧ Below w.heap.size w wr) (fun _ i _ => ws.length - (intOf i).toNat)
  case atStart => exact ⟨0, [], Nat.zero_le _, rfl, rfl, trivial, rfl, by simp [flat], hb1⟩
  case round =>
    obtain ⟨k, ps, hk, rfl, rfl, hgo, hmap, hfl, hbr⟩ := hrel
    have HM : Hid (gapsOk ps ∧ ps.map (·.2) = ws.take k) := ⟨hgo, hmap⟩
    clear hgo hmap
    by_cases hlt : k < ws.length
    · have hk32 : (k : Int) < 32 := by omega
      have hcell : wr.cell? ⟨b, off + k, none⟩ = some (.string ⟨ws[k].toArray⟩) := by
        have h1 := HC.out k hlt
        rw [World.cell?_of_block (w := w) (w' := wr) (hbr.block b (World.block_lt_of_cell? w _ h1))]
        exact h1
      have hql := quote_length ws[k]
      have hwk := HWB.out ws[k] (List.getElem_mem hlt)
      rcases HG.out with ⟨h, ga, gc, rfl⟩ | ⟨hz0, gb, go, gc, rfl, hgc⟩
      · by_cases hk0 : (0 : Int) < (k : Int)
        · have HNX : Hid (∃ ps', gapsOk ps' ∧ ps'.map (·.2) = ws.take (k + 1) ∧ flat ps' = flat ps ++ [32] ++ quote ws[k] ∧ (flat ps').length ≤ (k + 1) * 3145742) := next_ok hlt HM.out.1 HM.out.2 (by decide) (fun _ => by simp) (by simp) hfl hwk
          go_wp2_with fail
          refine (Quote_any ws[k] _ (by omega)).mono ?_
          rintro e w4 ⟨rfl, hb4⟩
          have hbr4 := hbr.trans (hb4.mono hbr.size)
          go_wp2
          obtain ⟨ps', n1, n2, n3, n4⟩ := HNX.out
          refine ⟨⟨k + 1, ps', by omega, by go_num, ?_, n1, n2, n4, hbr4⟩, by simp [intOf]; omega⟩
          rw [n3]
          simp
        · obtain rfl : k = 0 := by omega
          have hc0 : wr.cell? ⟨b, off, none⟩ = some (.string ⟨ws[0].toArray⟩) := hcell
          clear hk0
          have HNX : Hid (∃ ps', gapsOk ps' ∧ ps'.map (·.2) = ws.take (0 + 1) ∧ flat ps' = flat ps ++ [] ++ quote ws[0] ∧ (flat ps').length ≤ (0 + 1) * 3145742) := next_ok hlt HM.out.1 HM.out.2 (by simp) (fun h => by omega) (by simp) hfl hwk
          go_wp2_with fail
          refine (Quote_any ws[0] _ (by omega)).mono ?_
          rintro e w4 ⟨rfl, hb4⟩
          have hbr4 := hbr.trans (hb4.mono hbr.size)
          go_wp2
          obtain ⟨ps', n1, n2, n3, n4⟩ := HNX.out
          refine ⟨⟨0 + 1, ps', by omega, by go_num, ?_, n1, n2, n4, hbr4⟩, by simp [intOf]; omega⟩
          rw [n3]
          simp
      · have hm : k % zs.length < zs.length := Nat.mod_lt _ hz0
        have hgcell : wr.cell? ⟨gb, go + k % zs.length, none⟩ = some (.int .i64 zs[k % zs.length]) := by
          have h1 := hgc _ hm
          rw [World.cell?_of_block (w := w) (w' := wr) (hbr.block gb (World.block_lt_of_cell? w _ h1))]
          exact h1
        generalize zs[k % zs.length] = z at *
        obtain ⟨kk, hkk, hkz⟩ := kk_of z
        have hz1 : (0 : Int) < (zs.length : Int) := by omega
        by_cases hk0 : (0 : Int) < (k : Int)
        · have HNX : Hid (∃ ps', gapsOk ps' ∧ ps'.map (·.2) = ws.take (k + 1) ∧ flat ps' = flat ps ++ gap kk ++ quote ws[k] ∧ (flat ps').length ≤ (k + 1) * 3145742) := next_ok hlt HM.out.1 HM.out.2 (gap_blank kk) (fun _ => gap_ne kk) (gap_len kk) hfl hwk
          go_wp2_with fail
          refine (Quote_any ws[k] _ (by omega)).mono ?_
          rintro e w4 ⟨rfl, hb4⟩
          have hbr4 := hbr.trans (hb4.mono hbr.size)
          go_wp2
          obtain ⟨ps', n1, n2, n3, n4⟩ := HNX.out
          refine ⟨⟨k + 1, ps', by omega, by go_num, ?_, n1, n2, n4, hbr4⟩, by simp [intOf]; omega⟩
          rw [n3]
          simp [gap]
        · obtain rfl : k = 0 := by omega
          have hc0 : wr.cell? ⟨b, off, none⟩ = some (.string ⟨ws[0].toArray⟩) := hcell
          have hg0 : wr.cell? ⟨gb, go, none⟩ = some (.int .i64 z) := by
            have e : go + 0 % zs.length = go := by simp
            rw [e] at hgcell; exact hgcell
          clear hk0 hgcell
          by_cases hk1 : (1 : Int) < (kk : Int)
          · have HNX : Hid (∃ ps', gapsOk ps' ∧ ps'.map (·.2) = ws.take (0 + 1) ∧ flat ps' = flat ps ++ gap kk ++ quote ws[0] ∧ (flat ps').length ≤ (0 + 1) * 3145742) := next_ok hlt HM.out.1 HM.out.2 (gap_blank kk) (fun _ => gap_ne kk) (gap_len kk) hfl hwk
            go_wp2_with fail
            refine (Quote_any ws[0] _ (by omega)).mono ?_
            rintro e w4 ⟨rfl, hb4⟩
            have hbr4 := hbr.trans (hb4.mono hbr.size)
            go_wp2
            obtain ⟨ps', n1, n2, n3, n4⟩ := HNX.out
            refine ⟨⟨0 + 1, ps', by omega, by go_num, ?_, n1, n2, n4, hbr4⟩, by simp [intOf]; omega⟩
            rw [n3]
            simp [gap]
          · have HNX : Hid (∃ ps', gapsOk ps' ∧ ps'.map (·.2) = ws.take (0 + 1) ∧ flat ps' = flat ps ++ [] ++ quote ws[0] ∧ (flat ps').length ≤ (0 + 1) * 3145742) := next_ok hlt HM.out.1 HM.out.2 (by simp) (fun h => by omega) (by simp) hfl hwk
            go_wp2_with fail
            refine (Quote_any ws[0] _ (by omega)).mono ?_
            rintro e w4 ⟨rfl, hb4⟩
            have hbr4 := hbr.trans (hb4.mono hbr.size)
            go_wp2
            obtain ⟨ps', n1, n2, n3, n4⟩ := HNX.out
            refine ⟨⟨0 + 1, ps', by omega, by go_num, ?_, n1, n2, n4, hbr4⟩, by simp [intOf]; omega⟩
            rw [n3]
            simp
    · have HL := words_list ps HM.out.1 (by have := congrArg List.length HM.out.2; simp at this; omega)
      have hps : ps.map (·.2) = ws := by rw [HM.out.2, List.take_of_length_le (by omega)]
      rw [hps] at HL
      have HL2 : Hid (wordsL (flat ps ++ [9]) = ws ∧ wordsE (flat ps ++ [9]) = 0) := HL
      clear HL hps
      have hfl2 : (flat ps ++ [9]).length ≤ 4294967280 := by
        have : k * 3145742 ≤ 32 * 3145742 := Nat.mul_le_mul_right _ (by omega)
        simp; omega
      go_wp2_with fail
      refine (Words_any (flat ps ++ [9]) _ (by omega)).mono ?_
      rintro e w4 ⟨va, rfl, ha4, hb4⟩
      have hbr4 := hbr.trans (hb4.mono hbr.size)
      have hE : wordsE (flat ps ++ [9]) = 0 := HL2.out.2
      have hW := srow_of ha4
      rw [HL2.out.1] at hW
      have hV : Srow w4 (.slice (some ⟨b, off, none⟩) 32 cap) ws := HS.out.keep hbr4.block
      have HX : Hid (Srow w4 va ws ∧ Srow w4 (.slice (some ⟨b, off, none⟩) 32 cap) ws) := ⟨hW, hV⟩
      clear hW hV ha4
      go_wp2_with fail
      refine (Same_any va (.slice (some ⟨b, off, none⟩) 32 cap) ws _ (by omega) HX.out.1 HX.out.2).mono ?_
      rintro e w5 ⟨rfl, n5, rfl⟩
      go_wp2
      go_ret
      exact ⟨rfl, below_drewN hbr4 n5⟩
end Go.Proofs.YtoelblofdgimfaaDoor.numList
