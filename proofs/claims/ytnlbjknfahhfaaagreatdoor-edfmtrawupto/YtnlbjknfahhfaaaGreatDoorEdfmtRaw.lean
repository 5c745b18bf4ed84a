/-
  For every text and every list of texts of together at most 1048576 letters and values, the law EdfmtRaw returns true and leaves its arguments as they were: commands over lines that lack their line feeds do the same as over lines that have them, and no commands leave the lines, each with a line feed. The conditions are the statement's own bound and the card's: the library's tables, and errors.errorType, hold what the program's text lays.
-/
import Derived.Test.YtnlbjknfahhfaaaGreatDoorCards
import Derived.Test.YtnlbjknfahhfaaaGreatDoorTie
import Derived.Test.YtnlbjknfahhfaaaGreatDoorPartA12
import Derived.Test.YtnlbjknfahhfaaaGreatDoorPartB2
import Derived.Test.YtnlbjknfahhfaaaGreatDoorPartB1
import Derived.Test.YtnlbjknfahhfaaaGreatDoorPartA13
import Derived.Test.YtnlbjknfahhfaaaGreatDoorPartA14
import Derived.ProofKit
import Derived.OpenShut
import Derived.ShutString
import Derived.JoinedCond
import Derived.Deep.DeepHandedRow
import Derived.Lib.LaidTab
import Derived.LaidSub
set_option maxRecDepth 20000
namespace Go.Proofs.YtnlbjknfahhfaaaGreatDoor
open Go.RowKit
attribute [local go_sem] no_at

/-- lines that have no line feed left -/
def okR (a : List (List UInt8)) : Prop := ∀ s ∈ a, fdB (bareT s) = false
theorem raw_bare {a : List (List UInt8)} (h : okR a) : (a.map bareT).map bareT = a.map bareT := by
  rw [List.map_map]
  refine List.map_congr_left fun s hs => ?_
  exact efb_no (h s hs)
theorem raw_whole {a : List (List UInt8)} : ((a.map bareT).map (· ++ [10])).map bareT = a.map bareT := by
  rw [List.map_map]
  conv => rhs; rw [← List.map_id (a.map bareT)]
  refine List.map_congr_left fun s _ => ?_
  simp [bareT, fd_snoc]
theorem fd_lastR {s : List UInt8} (h0 : 0 < s.length) : fdB s = (s[s.length - 1] == 10) := by
  unfold fdB
  rw [List.getLast?_eq_getElem?, List.getElem?_eq_getElem (by omega)]
  rfl
theorem dod_q {T r T1 r2 : List (List UInt8)} {i j : Nat} {tx : Bool} {p c1 q : Nat} (h : dodE T i j tx p r = .ok (T1, c1, q, r2)) : q ≤ p + r.length := by
  unfold dodE doE at h
  split at h
  · cases h
  · rename_i l q' r' h'
    cases h
    split at h'
    · have := txR_len h'
      omega
    · cases h'
      omega
theorem sd_q {p : Nat} {s : List UInt8} {r T T1 r2 : List (List UInt8)} {cur c1 q : Nat} {en e1 : Bool} (h : sdE p s r T cur en = .ok (T1, c1, e1, q, r2)) : q ≤ p + 1 + r.length := by
  unfold sdE at h
  split at h
  · split at h
    · cases h
    · split at h
      · cases h
        omega
      · split at h
        · cases h
        · rename_i T2 c2 q2 r3 hs
          cases h
          unfold stE at hs
          split at hs
          · split at hs
            · cases hs
            · cases hs
              omega
          · split at hs
            · split at hs
              · cases hs
              · exact dod_q hs
            · split at hs
              · cases hs
              · split at hs
                · cases hs
                · exact dod_q hs
  · cases h
theorem run_len : ∀ (f p : Nat) (ls T : List (List UInt8)) (cur : Nat) (en : Bool) (l : List (List UInt8)), Bd ls → Bd T → runE f p ls T cur en = .ok l → l.length ≤ T.length + ls.length
  | 0, p, ls, T, cur, en, l, _, _, h => by
    cases h
    rw [resK_res, resK_len]
    omega
  | f + 1, p, [], T, cur, en, l, _, _, h => by
    cases h
    rw [resK_res, resK_len]
    omega
  | f + 1, p, s :: r, T, cur, en, l, hl, hT, h => by
    rw [runE] at h
    split at h
    · cases h
    · rename_i T1 c1 e1 q r2 hs
      obtain ⟨h1, h2, h3, h4⟩ := sd_bd hT (fun x hx => hl x (by simp [hx])) hs
      have hr2 : Bd r2 := fun x hx => by rw [h4] at hx; exact hl x (by simp [List.mem_of_mem_drop hx])
      have ih := run_len f q r2 T1 c1 e1 l hr2 h1 h
      have hq := sd_q hs
      have h5 : r2.length = r.length - (q - (p + 1)) := by rw [h4, List.length_drop]
      simp only [List.length_cons]
      omega
theorem edR_len {t : List UInt8} {a l : List (List UInt8)} (h : edR t a = .ok l) (ha : a.length ≤ 1048576) (hb : ∀ s ∈ a, s.length ≤ 1099511627776) : l.length ≤ 4398046511104 := by
  unfold edR at h
  split at h
  · cases h
  · rename_i hlong
    have hsl := Ln.split_len t
    have := run_len _ _ _ _ _ _ _ (by
      intro s hs
      have h1 := congrArg List.length (Ln.split_join t)
      have h2 := flat_mem hs
      omega) (by
      intro s hs
      obtain ⟨u, hu, rfl⟩ := List.mem_map.1 hs
      have h1 := hb u hu
      have h2 := bareT_le u
      omega) h
    rw [List.length_map] at this
    omega
set_option maxRecDepth 20000 in
set_option maxHeartbeats 16000000 in
theorem EdfmtRaw_any (t : List UInt8) (a : List (List UInt8)) (va : Value) (w : World) (hl : t.length + (a.length + a.flatten.length) ≤ 1048576) (ha : HS w va a) (HTw : Hid (Tab10 w)) (HEt : Hid (ErrT w)) :
    Calls Tryz.prog 4 #[.string ⟨t.toArray⟩, va] w fun e w' => e = .returned (.bool true) ∧ Below w.heap.size w w' := by
  obtain ⟨ao, ac, rfl⟩ := Holds.form ha
  have HTA : Hid (∀ s ∈ a, s.length ≤ 1048576) := fun s hs => by have := mem_flatE hs; omega
  have hal : a.length ≤ 1048576 := by omega
  go_enter Tryz.func4, Tryz.ntmps4
  go_wp2_with fail
  refine (eworks_f w HTw).mono ?_
  rintro e w0 ⟨rfl, hB0⟩
  by_cases hlong : 100000 < t.length
  · have i1 : (100000 : Int) < (t.length : Int) := by omega
    go_wp2
    go_ret
    exact ⟨rfl, hB0⟩
  · have i1 : ¬ (100000 : Int) < (t.length : Int) := by omega
    go_wp2
    go_loopw [5, 6, 7] (fun bv wv iv wr => ∃ (k : Nat) (ob ow : Option Addr) (cb cw : Nat), k ≤ a.length ∧ bv = .slice ob k cb ∧ wv = .slice ow k cw ∧ iv = .int .i64 (k : Int) ∧ Below w.heap.size w wr ∧ Hid (wr.ownsRow w0.heap.size 9 1 bv k (scells ((a.map bareT).take k))) ∧ Hid (wr.ownsRow w0.heap.size 9 1 wv k (scells (((a.map bareT).map (· ++ [10])).take k))) ∧ Hid (okR (a.take k)) ∧ Hid (∀ g, bv.ownBlock = some g → wv.ownBlock = some g → False) ∧ Below w0.heap.size w0 wr) (fun _ _ iv _ => a.length - (intOf iv).toNat)
    case atStart => exact ⟨0, none, none, 0, 0, Nat.zero_le _, rfl, rfl, rfl, hB0, World.ownsRow_nil _ _ _ _, World.ownsRow_nil _ _ _ _, (fun s hs => by cases hs), (fun g h => by simp [Value.ownBlock] at h), Below.refl _ _⟩
    case round =>
      obtain ⟨k, ob, ow, cb, cw, hk, rfl, rfl, rfl, hbr, hOb, hOw, hok, hdj, hb0r⟩ := hrel
      have har : HS wr (.slice ao a.length ac) a := HS.keep ha hbr (Nat.le_refl _)
      by_cases hlt : k < a.length
      · obtain ⟨bk, off, rfl, hbk, hcl⟩ := HS.at har (by omega)
        have c0 := hcl k hlt
        have hsl := HTA.out a[k] (List.getElem_mem _)
        obtain ⟨b, hb⟩ : ∃ b, bareT a[k] = b := ⟨_, rfl⟩
        have HTk : Hid ((a.map bareT).take (k + 1) = (a.map bareT).take k ++ [b]) := (by show _ = _; rw [List.take_succ_eq_append_getElem (by simpa using hlt), List.getElem_map, hb])
        have HTk2 : Hid (((a.map bareT).map (· ++ [10])).take (k + 1) = ((a.map bareT).map (· ++ [10])).take k ++ [b ++ [10]]) := (by show _ = _; rw [List.take_succ_eq_append_getElem (by simpa using hlt), List.getElem_map, List.getElem_map, hb])
        have HOk : Hid (fdB b = false → okR (a.take (k + 1))) := (by
          intro hf x hx
          rw [List.take_succ_eq_append_getElem hlt] at hx
          rcases List.mem_append.1 hx with hx | hx
          · exact hok.out x hx
          · rw [List.mem_singleton.1 hx, hb]; exact hf)
        have hbl : b.length ≤ 1048576 := (by
          rw [← hb]
          unfold bareT
          split
          · rw [List.length_dropLast]; omega
          · exact hsl)
        have hbar := lBare_f a[k] wr (by omega)
        rw [hb] at hbar
        obtain ⟨s, hs⟩ : ∃ s, a[k] = s := ⟨_, rfl⟩
        rw [hs] at c0 hbar
        generalize fdB s = fs at hbar
        clear hcl hb hs hsl hok
        have j1 : (0 : Int) ≤ (k : Int) := by omega
        have j2 : (k : Int) < (a.length : Int) := by omega
        go_wp2_with fail
        refine hbar.mono ?_
        rintro e w1 ⟨rfl, rfl⟩
        cases hf : fdB b with
        | true =>
          have hpos : 0 < b.length := (by
            rcases Nat.eq_zero_or_pos b.length with h | h
            · rw [List.eq_nil_of_length_eq_zero h] at hf; cases hf
            · exact h)
          have hl10 : b[b.length - 1] = 10 := (by rw [fd_lastR hpos] at hf; simpa using hf)
          have e1 : (b == []) = false := (by rw [beq_eq_false_iff_ne]; rintro rfl; simp at hpos)
          have e2 : b.isEmpty = false := (by cases b with | nil => simp at hpos | cons => rfl)
          have hi : ((b.length : Int) - 1).toNat = b.length - 1 := by omega
          have i3 : 0 ≤ (b.length : Int) - 1 := by omega
          have i4 : (b.length : Int) - 1 < (b.length : Int) := by omega
          have i5 : ((b[b.length - 1].toNat : Int) == 10) = true := by rw [hl10]; rfl
          clear hf HOk
          go_wp2
          go_ret
          exact ⟨rfl, hbr⟩
        | false =>
          have HOk2 : Hid (okR (a.take (k + 1))) := HOk.out hf
          have q1 := add_fits (x := b) (y := [10]) (by unfold Fits; simp only [List.length_cons, List.length_nil]; omega) Tryz.prog
          have hwz := hb0r.size
          have hA : ∀ (hgo : True), True := fun _ => trivial
          clear HOk hbar
          rcases Nat.eq_zero_or_pos b.length with h0 | h0
          · obtain rfl := List.eq_nil_of_length_eq_zero h0
            clear hf h0
            go_wp2_with (at_builtin; refine wpList_ef_append _ (by kernel_rfl) (.tmp 45) (.tmp 47) 23 9 (.string ⟨#[]⟩) 1 16 rfl Tryz.underlying23 infoStr rfl (by decide) (by decide) w0.heap.size _ _ _ rfl (hOb.out.alloc _) _ 1 (scells [([] : List UInt8)]) rfl (new_holds _ _ _ _ _ (by decide)) rfl (scells_one _) (by omega) (by simp; omega) ?_)
            intro v2 w2 hown2 hg2 hp2
            have hBa : Below w0.heap.size w0 (wr.alloc (.cells #[.string ⟨#[]⟩] 9)) := hb0r.alloc hb0r.size _
            have hB2 : Below w0.heap.size w0 w2 := hBa.grown hg2 hBa.size (fun j hj => owns_ge (hOb.out.alloc (.cells #[.string ⟨#[]⟩] 9)) hj)
            have hOw2 : Hid (w2.ownsRow w0.heap.size 9 1 (.slice ow k cw) k (scells (((a.map bareT).map (· ++ [10])).take k))) := own_keep (hOw.out.alloc (.cells #[.string ⟨#[]⟩] 9)) (fun j hj => hg2.block j ((hOw.out.alloc (.cells #[.string ⟨#[]⟩] 9)).lt j hj).2 (fun e => hdj.out j e.symm hj))
            have hdj2 : Hid (∀ j, v2.ownBlock = some j → Value.ownBlock (.slice ow k cw) = some j → False) := (by
              intro j h1 h2
              rcases hp2 with h | h
              · rw [h] at h1; exact hdj.out j h1 h2
              · rw [h] at h1
                have h3 := (hOw.out.lt j h2).2
                have h4 : wr.heap.size + 1 = j := by simpa using h1
                omega)
            obtain ⟨o2, c2, rfl⟩ := (holds_of hown2).form
            rw [← scells_append, ← HTk.out] at hown2
            have HOb2 : Hid (w2.ownsRow w0.heap.size 9 1 (.slice o2 (k + 1) c2) (k + 1) (scells ((a.map bareT).take (k + 1)))) := hown2
            have hw2z := hB2.size
            clear hown2 hg2 hp2 hOb hOw hdj hBa hb0r
            go_wp2_with (at_builtin; refine wpList_ef_append _ (by kernel_rfl) (.tmp 49) (.tmp 52) 23 9 (.string ⟨#[]⟩) 1 16 rfl Tryz.underlying23 infoStr rfl (by decide) (by decide) w0.heap.size _ _ _ rfl (hOw2.out.alloc _) _ 1 (scells [([] : List UInt8) ++ [10]]) rfl (new_holds _ _ _ _ _ (by decide)) rfl (scells_one _) (by omega) (by simp; omega) ?_)
            intro v3 w3 hown3 hg3 hp3
            have hBb : Below w0.heap.size w0 (w2.alloc (.cells #[.string ⟨(([] : List UInt8) ++ [10]).toArray⟩] 9)) := hB2.alloc hB2.size _
            have hB3 : Below w0.heap.size w0 w3 := hBb.grown hg3 hBb.size (fun j hj => owns_ge (hOw2.out.alloc (.cells #[.string ⟨(([] : List UInt8) ++ [10]).toArray⟩] 9)) hj)
            have HOb3 : Hid (w3.ownsRow w0.heap.size 9 1 (.slice o2 (k + 1) c2) (k + 1) (scells ((a.map bareT).take (k + 1)))) := own_keep (HOb2.out.alloc (.cells #[.string ⟨(([] : List UInt8) ++ [10]).toArray⟩] 9)) (fun j hj => hg3.block j ((HOb2.out.alloc (.cells #[.string ⟨(([] : List UInt8) ++ [10]).toArray⟩] 9)).lt j hj).2 (fun e => hdj2.out j hj e.symm))
            have hdj3 : Hid (∀ j, Value.ownBlock (.slice o2 (k + 1) c2) = some j → v3.ownBlock = some j → False) := (by
              intro j h1 h2
              rcases hp3 with h | h
              · rw [h] at h2; exact hdj2.out j h1 h2
              · rw [h] at h2
                have h3 := (HOb2.out.lt j h1).2
                have h4 : w2.heap.size + 1 = j := by simpa using h2
                omega)
            obtain ⟨o3, c3, rfl⟩ := (holds_of hown3).form
            have HOw3 : Hid (w3.ownsRow w0.heap.size 9 1 (.slice o3 (k + 1) c3) (k + 1) (scells (((a.map bareT).map (· ++ [10])).take (k + 1)))) := (by show World.ownsRow _ _ _ _ _ _ _; rw [HTk2.out, scells_append]; simpa using hown3)
            have hBw3 : Below w.heap.size w w3 := hB0.trans (hB3.mono hB0.size)
            clear hown3 hg3 hp3 hOw2 hdj2 HOb2 hBb hB2
            go_wp2
            go_roundw
            case rel => exact ⟨k + 1, o2, o3, c2, c3, by omega, rfl, rfl, by go_num, hBw3, HOb3, HOw3, HOk2, hdj3, hB3⟩
            case measure => simp [intOf]; omega
          · have hl10 : b[b.length - 1] ≠ 10 := (by rw [fd_lastR h0] at hf; simpa using hf)
            have e1 : (b == []) = false := (by rw [beq_eq_false_iff_ne]; rintro rfl; simp at h0)
            have e2 : b.isEmpty = false := (by cases b with | nil => simp at h0 | cons => rfl)
            have hi : ((b.length : Int) - 1).toNat = b.length - 1 := by omega
            have i3 : 0 ≤ (b.length : Int) - 1 := by omega
            have i4 : (b.length : Int) - 1 < (b.length : Int) := by omega
            have i5 : ((b[b.length - 1].toNat : Int) == 10) = false := (by
              rw [beq_eq_false_iff_ne]
              intro hq
              exact hl10 (UInt8.toNat_inj.1 (by show _ = 10; omega)))
            clear hf hl10
            go_wp2_with (at_builtin; refine wpList_ef_append _ (by kernel_rfl) (.tmp 45) (.tmp 47) 23 9 (.string ⟨#[]⟩) 1 16 rfl Tryz.underlying23 infoStr rfl (by decide) (by decide) w0.heap.size _ _ _ rfl (hOb.out.alloc _) _ 1 (scells [b]) rfl (new_holds _ _ _ _ _ (by decide)) rfl (scells_one _) (by omega) (by simp; omega) ?_)
            intro v2 w2 hown2 hg2 hp2
            have hBa : Below w0.heap.size w0 (wr.alloc (.cells #[.string ⟨b.toArray⟩] 9)) := hb0r.alloc hb0r.size _
            have hB2 : Below w0.heap.size w0 w2 := hBa.grown hg2 hBa.size (fun j hj => owns_ge (hOb.out.alloc (.cells #[.string ⟨b.toArray⟩] 9)) hj)
            have hOw2 : Hid (w2.ownsRow w0.heap.size 9 1 (.slice ow k cw) k (scells (((a.map bareT).map (· ++ [10])).take k))) := own_keep (hOw.out.alloc (.cells #[.string ⟨b.toArray⟩] 9)) (fun j hj => hg2.block j ((hOw.out.alloc (.cells #[.string ⟨b.toArray⟩] 9)).lt j hj).2 (fun e => hdj.out j e.symm hj))
            have hdj2 : Hid (∀ j, v2.ownBlock = some j → Value.ownBlock (.slice ow k cw) = some j → False) := (by
              intro j h1 h2
              rcases hp2 with h | h
              · rw [h] at h1; exact hdj.out j h1 h2
              · rw [h] at h1
                have h3 := (hOw.out.lt j h2).2
                have h4 : wr.heap.size + 1 = j := by simpa using h1
                omega)
            obtain ⟨o2, c2, rfl⟩ := (holds_of hown2).form
            rw [← scells_append, ← HTk.out] at hown2
            have HOb2 : Hid (w2.ownsRow w0.heap.size 9 1 (.slice o2 (k + 1) c2) (k + 1) (scells ((a.map bareT).take (k + 1)))) := hown2
            have hw2z := hB2.size
            clear hown2 hg2 hp2 hOb hOw hdj hBa hb0r
            go_wp2_with (at_builtin; refine wpList_ef_append _ (by kernel_rfl) (.tmp 49) (.tmp 52) 23 9 (.string ⟨#[]⟩) 1 16 rfl Tryz.underlying23 infoStr rfl (by decide) (by decide) w0.heap.size _ _ _ rfl (hOw2.out.alloc _) _ 1 (scells [b ++ [10]]) rfl (new_holds _ _ _ _ _ (by decide)) rfl (scells_one _) (by omega) (by simp; omega) ?_)
            intro v3 w3 hown3 hg3 hp3
            have hBb : Below w0.heap.size w0 (w2.alloc (.cells #[.string ⟨(b ++ [10]).toArray⟩] 9)) := hB2.alloc hB2.size _
            have hB3 : Below w0.heap.size w0 w3 := hBb.grown hg3 hBb.size (fun j hj => owns_ge (hOw2.out.alloc (.cells #[.string ⟨(b ++ [10]).toArray⟩] 9)) hj)
            have HOb3 : Hid (w3.ownsRow w0.heap.size 9 1 (.slice o2 (k + 1) c2) (k + 1) (scells ((a.map bareT).take (k + 1)))) := own_keep (HOb2.out.alloc (.cells #[.string ⟨(b ++ [10]).toArray⟩] 9)) (fun j hj => hg3.block j ((HOb2.out.alloc (.cells #[.string ⟨(b ++ [10]).toArray⟩] 9)).lt j hj).2 (fun e => hdj2.out j hj e.symm))
            have hdj3 : Hid (∀ j, Value.ownBlock (.slice o2 (k + 1) c2) = some j → v3.ownBlock = some j → False) := (by
              intro j h1 h2
              rcases hp3 with h | h
              · rw [h] at h2; exact hdj2.out j h1 h2
              · rw [h] at h2
                have h3 := (HOb2.out.lt j h1).2
                have h4 : w2.heap.size + 1 = j := by simpa using h2
                omega)
            obtain ⟨o3, c3, rfl⟩ := (holds_of hown3).form
            have HOw3 : Hid (w3.ownsRow w0.heap.size 9 1 (.slice o3 (k + 1) c3) (k + 1) (scells (((a.map bareT).map (· ++ [10])).take (k + 1)))) := (by show World.ownsRow _ _ _ _ _ _ _; rw [HTk2.out, scells_append]; simpa using hown3)
            have hBw3 : Below w.heap.size w w3 := hB0.trans (hB3.mono hB0.size)
            clear hown3 hg3 hp3 hOw2 hdj2 HOb2 hBb hB2
            go_wp2
            go_roundw
            case rel => exact ⟨k + 1, o2, o3, c2, c3, by omega, rfl, rfl, by go_num, hBw3, HOb3, HOw3, HOk2, hdj3, hB3⟩
            case measure => simp [intOf]; omega
      · have ek : k = a.length := by omega
        subst ek
        obtain ⟨B, hB⟩ : ∃ B, a.map bareT = B := ⟨_, rfl⟩
        obtain ⟨V, hV⟩ : ∃ V, B.map (· ++ [10]) = V := ⟨_, rfl⟩
        have hokA : okR a := (by have h := hok.out; rwa [List.take_length] at h)
        have hBB : B.map bareT = B := by rw [← hB]; exact raw_bare hokA
        have hVB : V.map bareT = B := by rw [← hV, ← hB]; exact raw_whole
        have hBl : B.length = a.length := by rw [← hB, List.length_map]
        have hVl : V.length = a.length := by rw [← hV, List.length_map, hBl]
        have hb0 : HS wr (.slice ob a.length cb) B := (by
          have h := holds_of hOb.out
          rw [hB, ← hBl, List.take_length] at h
          rw [← hBl]
          exact h)
        have hv0 : HS wr (.slice ow a.length cw) V := (by
          have h := holds_of hOw.out
          rw [hB, hV, ← hVl, List.take_length] at h
          rw [← hVl]
          exact h)
        have HBs : Hid (∀ s ∈ B, s.length ≤ 1099511627776) := (by
          intro x hx
          rw [← hB] at hx
          obtain ⟨u, hu, rfl⟩ := List.mem_map.1 hx
          have h1 := HTA.out u hu
          have h2 := bareT_le u
          omega)
        have HVs : Hid (∀ s ∈ V, s.length ≤ 1099511627776) := (by
          intro x hx
          rw [← hV, ← hB] at hx
          obtain ⟨u, hu, rfl⟩ := List.mem_map.1 hx
          obtain ⟨u2, hu2, rfl⟩ := List.mem_map.1 hu
          have h1 := HTA.out u2 hu2
          have h2 := bareT_le u2
          simp only [List.length_append, List.length_cons, List.length_nil]
          omega)
        obtain ⟨R, hR⟩ : ∃ R, edR t B = R := ⟨_, rfl⟩
        have HR1 : Hid (edR t B = R) := hR
        have HR2 : Hid (edR t V = R) := (by show _ = _; rw [← hR]; exact ed_bare (by rw [hVB, hBB]))
        have HR3 : Hid (edR [] B = .ok V) := (by show _ = _; rw [ed_nil, hBB, hV])
        have HLn : Hid (B.length = a.length ∧ V.length = a.length) := ⟨hBl, hVl⟩
        have hend : decide ((a.length : Int) < (a.length : Int)) = false := decide_eq_false (by omega)
        have HTT : Hid (ErrT w) := HEt
        clear hR hBB hVB hB hV hOb hOw hok hdj har hlt hb0r hokA hBl hVl
        cases R with
        | error kz =>
          obtain ⟨rk, rz⟩ := kz
          have hnil1 := nil_row_new (e := 9) (s := 1) wr wr.heap.size wr.heap.size rfl (Nat.le_refl _)
          have hE1 : Below wr.heap.size wr (wr.alloc (.cells #[] 9)) := (Below.refl _ wr).alloc (Nat.le_refl _) _
          have hs1 : Holds (wr.alloc (.cells #[] 9)) (.slice ob a.length cb) a.length (scells B) := (by
            have h := HS.keep hb0 hE1 (Nat.le_refl _)
            unfold HS at h
            rw [HLn.out.1] at h
            exact h)
          have HZ1 : Hid ((wr.alloc (.cells #[] 9)).heap.size = wr.heap.size + 1) := (by show _ = _; simp)
          go_wp2_with (at_builtin; refine wpList_ef_append _ (by kernel_rfl) (.tmp 56) (.tmp 57) 23 9 (.string ⟨#[]⟩) 1 16 rfl Tryz.underlying23 infoStr rfl (by decide) (by decide) wr.heap.size _ _ _ rfl hnil1 _ a.length (scells B) rfl hs1 (by rw [scells_length, Nat.mul_one]; exact HLn.out.1) (scells_one _) (by omega) (by have := HZ1.out; omega) ?_)
          intro v1 x1 hown1 hg1 _
          have hBn1 : Below wr.heap.size wr x1 := hE1.grown hg1 hE1.size (fun j hj => owns_ge hnil1 hj)
          have hc1 : HS x1 v1 B := (by
            have h := holds_of hown1
            unfold HS
            rw [HLn.out.1]
            simpa using h)
          obtain ⟨co1, cc1, hvf1⟩ := Holds.form hc1
          rw [HLn.out.1] at hvf1
          subst hvf1
          clear hown1 hg1 hnil1 hE1 hs1 HZ1
          have hA1 : Below w.heap.size w x1 := hbr.trans (hBn1.mono hbr.size)
          have hb1 := HS.keep hb0 hBn1 (Nat.le_refl _)
          have hv1 := HS.keep hv0 hBn1 (Nat.le_refl _)
          clear hb0 hv0 hBn1 hbr
          go_wp2_with fail
          refine (Run_f t B _ x1 hc1 (by omega) (by have := HLn.out.1; omega) HBs _ HR1).mono ?_
          rintro e x2 ⟨g1, rfl, hg1, hBn2⟩
          have hA2 : Below w.heap.size w x2 := hA1.trans (hBn2.mono hA1.size)
          have hb2 := HS.keep hb1 hBn2 (Nat.le_refl _)
          have hv2 := HS.keep hv1 hBn2 (Nat.le_refl _)
          clear hb1 hv1 hBn2 hA1 hc1
          have hnil3 := nil_row_new (e := 9) (s := 1) x2 x2.heap.size x2.heap.size rfl (Nat.le_refl _)
          have hE3 : Below x2.heap.size x2 (x2.alloc (.cells #[] 9)) := (Below.refl _ x2).alloc (Nat.le_refl _) _
          have hs3 : Holds (x2.alloc (.cells #[] 9)) (.slice ow a.length cw) a.length (scells V) := (by
            have h := HS.keep hv2 hE3 (Nat.le_refl _)
            unfold HS at h
            rw [HLn.out.2] at h
            exact h)
          have HZ3 : Hid ((x2.alloc (.cells #[] 9)).heap.size = x2.heap.size + 1) := (by show _ = _; simp)
          go_wp2_with (at_builtin; refine wpList_ef_append _ (by kernel_rfl) (.tmp 64) (.tmp 65) 23 9 (.string ⟨#[]⟩) 1 16 rfl Tryz.underlying23 infoStr rfl (by decide) (by decide) x2.heap.size _ _ _ rfl hnil3 _ a.length (scells V) rfl hs3 (by rw [scells_length, Nat.mul_one]; exact HLn.out.2) (scells_one _) (by omega) (by have := HZ3.out; omega) ?_)
          intro v3 x3 hown3 hg3 _
          have hBn3 : Below x2.heap.size x2 x3 := hE3.grown hg3 hE3.size (fun j hj => owns_ge hnil3 hj)
          have hc3 : HS x3 v3 V := (by
            have h := holds_of hown3
            unfold HS
            rw [HLn.out.2]
            simpa using h)
          obtain ⟨co3, cc3, hvf3⟩ := Holds.form hc3
          rw [HLn.out.2] at hvf3
          subst hvf3
          clear hown3 hg3 hnil3 hE3 hs3 HZ3
          have hA3 : Below w.heap.size w x3 := hA2.trans (hBn3.mono hA2.size)
          have hb3 := HS.keep hb2 hBn3 (Nat.le_refl _)
          have hv3 := HS.keep hv2 hBn3 (Nat.le_refl _)
          have hg1a := (hBn3.block g1 (Array.getElem?_eq_some_iff.1 hg1).1).trans hg1
          clear hb2 hv2 hBn3 hA2
          go_wp2_with fail
          refine (Run_f t V _ x3 hc3 (by omega) (by have := HLn.out.2; omega) HVs _ HR2).mono ?_
          rintro e x4 ⟨g2, rfl, hg2, hBn4⟩
          have hg1b := (hBn4.block g1 (Array.getElem?_eq_some_iff.1 hg1a).1).trans hg1a
          have hA4 : Below w.heap.size w x4 := hA3.trans (hBn4.mono hA3.size)
          have hb4 := HS.keep hb3 hBn4 (Nat.le_refl _)
          have hv4 := HS.keep hv3 hBn4 (Nat.le_refl _)
          clear hb3 hv3 hBn4 hA3 hc3
          have hnil5 := nil_row_new (e := 9) (s := 1) x4 x4.heap.size x4.heap.size rfl (Nat.le_refl _)
          have hE5 : Below x4.heap.size x4 (x4.alloc (.cells #[] 9)) := (Below.refl _ x4).alloc (Nat.le_refl _) _
          have hs5 : Holds (x4.alloc (.cells #[] 9)) (.slice ob a.length cb) a.length (scells B) := (by
            have h := HS.keep hb4 hE5 (Nat.le_refl _)
            unfold HS at h
            rw [HLn.out.1] at h
            exact h)
          have HZ5 : Hid ((x4.alloc (.cells #[] 9)).heap.size = x4.heap.size + 1) := (by show _ = _; simp)
          go_wp2_with (at_builtin; refine wpList_ef_append _ (by kernel_rfl) (.tmp 71) (.tmp 72) 23 9 (.string ⟨#[]⟩) 1 16 rfl Tryz.underlying23 infoStr rfl (by decide) (by decide) x4.heap.size _ _ _ rfl hnil5 _ a.length (scells B) rfl hs5 (by rw [scells_length, Nat.mul_one]; exact HLn.out.1) (scells_one _) (by omega) (by have := HZ5.out; omega) ?_)
          intro v5 x5 hown5 hg5 _
          have hBn5 : Below x4.heap.size x4 x5 := hE5.grown hg5 hE5.size (fun j hj => owns_ge hnil5 hj)
          have hc5 : HS x5 v5 B := (by
            have h := holds_of hown5
            unfold HS
            rw [HLn.out.1]
            simpa using h)
          obtain ⟨co5, cc5, hvf5⟩ := Holds.form hc5
          rw [HLn.out.1] at hvf5
          subst hvf5
          clear hown5 hg5 hnil5 hE5 hs5 HZ5
          have hA5 : Below w.heap.size w x5 := hA4.trans (hBn5.mono hA4.size)
          have hv5 := HS.keep hv4 hBn5 (Nat.le_refl _)
          have hg1c := (hBn5.block g1 (Array.getElem?_eq_some_iff.1 hg1b).1).trans hg1b
          have hg2c := (hBn5.block g2 (Array.getElem?_eq_some_iff.1 hg2).1).trans hg2
          clear hb4 hv4 hBn5 hA4
          go_wp2_with fail
          refine (Run_f [] B _ x5 hc5 (by decide) (by have := HLn.out.1; omega) HBs _ HR3).mono ?_
          rintro e x6 ⟨r3, rfl, hr3, hBn6⟩
          obtain ⟨ro3, rc3, rfl⟩ := Holds.form hr3
          have hA6 : Below w.heap.size w x6 := hA5.trans (hBn6.mono hA5.size)
          have hv6 := HS.keep hv5 hBn6 (Nat.le_refl _)
          have hg1d := (hBn6.block g1 (Array.getElem?_eq_some_iff.1 hg1c).1).trans hg1c
          have hg2d := (hBn6.block g2 (Array.getElem?_eq_some_iff.1 hg2c).1).trans hg2c
          have hE6 := HTT.out.low hA6 (Nat.le_refl _)
          clear hv5 hBn6 hA5 hc5
          go_wp2_with fail
          refine (seen_flt g1 _ _ x6 hE6 hg1d).mono ?_
          rintro e x7 ⟨rfl, hBn7⟩
          have hA7 : Below w.heap.size w x7 := hA6.trans (hBn7.mono hA6.size)
          have hE7 := HTT.out.low hA7 (Nat.le_refl _)
          have hg2e := (hBn7.block g2 (Array.getElem?_eq_some_iff.1 hg2d).1).trans hg2d
          have hv7 := HS.keep hv6 hBn7 (Nat.le_refl _)
          have hr7 := HS.keep hr3 hBn7 (Nat.le_refl _)
          go_wp2_with fail
          refine (seen_flt g2 _ _ x7 hE7 hg2e).mono ?_
          rintro e x8 ⟨rfl, hBn8⟩
          have hA8 : Below w.heap.size w x8 := hA7.trans (hBn8.mono hA7.size)
          have hv8 := HS.keep hv7 hBn8 (Nat.le_refl _)
          have hr8 := HS.keep hr7 hBn8 (Nat.le_refl _)
          have hn8 : HS x8 (.slice none 0 0) [] := Holds.nil x8
          go_wp2_with fail
          refine (SameS_any _ _ [] x8 (by simp) hn8 hn8).mono ?_
          rintro e x9 ⟨rfl, hBn9⟩
          have hA9 : Below w.heap.size w x9 := hA8.trans (hBn9.mono hA8.size)
          have hv9 := HS.keep hv8 hBn9 (Nat.le_refl _)
          have hr9 := HS.keep hr8 hBn9 (Nat.le_refl _)
          go_wp2_with fail
          refine (SameS_any _ _ V x9 (by have := HLn.out.2; omega) hr9 hv9).mono ?_
          rintro e x10 ⟨rfl, hBn10⟩
          go_wp2
          go_ret
          exact ⟨rfl, hA9.trans (hBn10.mono hA9.size)⟩
        | ok l =>
          have HRl : Hid (l.length ≤ 4398046511104) := edR_len HR1.out (by have := HLn.out.1; omega) HBs.out
          have hnil1 := nil_row_new (e := 9) (s := 1) wr wr.heap.size wr.heap.size rfl (Nat.le_refl _)
          have hE1 : Below wr.heap.size wr (wr.alloc (.cells #[] 9)) := (Below.refl _ wr).alloc (Nat.le_refl _) _
          have hs1 : Holds (wr.alloc (.cells #[] 9)) (.slice ob a.length cb) a.length (scells B) := (by
            have h := HS.keep hb0 hE1 (Nat.le_refl _)
            unfold HS at h
            rw [HLn.out.1] at h
            exact h)
          have HZ1 : Hid ((wr.alloc (.cells #[] 9)).heap.size = wr.heap.size + 1) := (by show _ = _; simp)
          go_wp2_with (at_builtin; refine wpList_ef_append _ (by kernel_rfl) (.tmp 56) (.tmp 57) 23 9 (.string ⟨#[]⟩) 1 16 rfl Tryz.underlying23 infoStr rfl (by decide) (by decide) wr.heap.size _ _ _ rfl hnil1 _ a.length (scells B) rfl hs1 (by rw [scells_length, Nat.mul_one]; exact HLn.out.1) (scells_one _) (by omega) (by have := HZ1.out; omega) ?_)
          intro v1 x1 hown1 hg1 _
          have hBn1 : Below wr.heap.size wr x1 := hE1.grown hg1 hE1.size (fun j hj => owns_ge hnil1 hj)
          have hc1 : HS x1 v1 B := (by
            have h := holds_of hown1
            unfold HS
            rw [HLn.out.1]
            simpa using h)
          obtain ⟨co1, cc1, hvf1⟩ := Holds.form hc1
          rw [HLn.out.1] at hvf1
          subst hvf1
          clear hown1 hg1 hnil1 hE1 hs1 HZ1
          have hA1 : Below w.heap.size w x1 := hbr.trans (hBn1.mono hbr.size)
          have hb1 := HS.keep hb0 hBn1 (Nat.le_refl _)
          have hv1 := HS.keep hv0 hBn1 (Nat.le_refl _)
          clear hb0 hv0 hBn1 hbr
          go_wp2_with fail
          refine (Run_f t B _ x1 hc1 (by omega) (by have := HLn.out.1; omega) HBs _ HR1).mono ?_
          rintro e x2 ⟨r1, rfl, hr1, hBn2⟩
          obtain ⟨ro1, rc1, rfl⟩ := Holds.form hr1
          have hA2 : Below w.heap.size w x2 := hA1.trans (hBn2.mono hA1.size)
          have hb2 := HS.keep hb1 hBn2 (Nat.le_refl _)
          have hv2 := HS.keep hv1 hBn2 (Nat.le_refl _)
          clear hb1 hv1 hBn2 hA1 hc1
          have hnil3 := nil_row_new (e := 9) (s := 1) x2 x2.heap.size x2.heap.size rfl (Nat.le_refl _)
          have hE3 : Below x2.heap.size x2 (x2.alloc (.cells #[] 9)) := (Below.refl _ x2).alloc (Nat.le_refl _) _
          have hs3 : Holds (x2.alloc (.cells #[] 9)) (.slice ow a.length cw) a.length (scells V) := (by
            have h := HS.keep hv2 hE3 (Nat.le_refl _)
            unfold HS at h
            rw [HLn.out.2] at h
            exact h)
          have HZ3 : Hid ((x2.alloc (.cells #[] 9)).heap.size = x2.heap.size + 1) := (by show _ = _; simp)
          go_wp2_with (at_builtin; refine wpList_ef_append _ (by kernel_rfl) (.tmp 64) (.tmp 65) 23 9 (.string ⟨#[]⟩) 1 16 rfl Tryz.underlying23 infoStr rfl (by decide) (by decide) x2.heap.size _ _ _ rfl hnil3 _ a.length (scells V) rfl hs3 (by rw [scells_length, Nat.mul_one]; exact HLn.out.2) (scells_one _) (by omega) (by have := HZ3.out; omega) ?_)
          intro v3 x3 hown3 hg3 _
          have hBn3 : Below x2.heap.size x2 x3 := hE3.grown hg3 hE3.size (fun j hj => owns_ge hnil3 hj)
          have hc3 : HS x3 v3 V := (by
            have h := holds_of hown3
            unfold HS
            rw [HLn.out.2]
            simpa using h)
          obtain ⟨co3, cc3, hvf3⟩ := Holds.form hc3
          rw [HLn.out.2] at hvf3
          subst hvf3
          clear hown3 hg3 hnil3 hE3 hs3 HZ3
          have hA3 : Below w.heap.size w x3 := hA2.trans (hBn3.mono hA2.size)
          have hb3 := HS.keep hb2 hBn3 (Nat.le_refl _)
          have hv3 := HS.keep hv2 hBn3 (Nat.le_refl _)
          have hr1a := HS.keep hr1 hBn3 (Nat.le_refl _)
          clear hb2 hv2 hBn3 hA2
          go_wp2_with fail
          refine (Run_f t V _ x3 hc3 (by omega) (by have := HLn.out.2; omega) HVs _ HR2).mono ?_
          rintro e x4 ⟨r2, rfl, hr2, hBn4⟩
          obtain ⟨ro2, rc2, rfl⟩ := Holds.form hr2
          have hr1b := HS.keep hr1a hBn4 (Nat.le_refl _)
          have hA4 : Below w.heap.size w x4 := hA3.trans (hBn4.mono hA3.size)
          have hb4 := HS.keep hb3 hBn4 (Nat.le_refl _)
          have hv4 := HS.keep hv3 hBn4 (Nat.le_refl _)
          clear hb3 hv3 hBn4 hA3 hc3
          have hnil5 := nil_row_new (e := 9) (s := 1) x4 x4.heap.size x4.heap.size rfl (Nat.le_refl _)
          have hE5 : Below x4.heap.size x4 (x4.alloc (.cells #[] 9)) := (Below.refl _ x4).alloc (Nat.le_refl _) _
          have hs5 : Holds (x4.alloc (.cells #[] 9)) (.slice ob a.length cb) a.length (scells B) := (by
            have h := HS.keep hb4 hE5 (Nat.le_refl _)
            unfold HS at h
            rw [HLn.out.1] at h
            exact h)
          have HZ5 : Hid ((x4.alloc (.cells #[] 9)).heap.size = x4.heap.size + 1) := (by show _ = _; simp)
          go_wp2_with (at_builtin; refine wpList_ef_append _ (by kernel_rfl) (.tmp 71) (.tmp 72) 23 9 (.string ⟨#[]⟩) 1 16 rfl Tryz.underlying23 infoStr rfl (by decide) (by decide) x4.heap.size _ _ _ rfl hnil5 _ a.length (scells B) rfl hs5 (by rw [scells_length, Nat.mul_one]; exact HLn.out.1) (scells_one _) (by omega) (by have := HZ5.out; omega) ?_)
          intro v5 x5 hown5 hg5 _
          have hBn5 : Below x4.heap.size x4 x5 := hE5.grown hg5 hE5.size (fun j hj => owns_ge hnil5 hj)
          have hc5 : HS x5 v5 B := (by
            have h := holds_of hown5
            unfold HS
            rw [HLn.out.1]
            simpa using h)
          obtain ⟨co5, cc5, hvf5⟩ := Holds.form hc5
          rw [HLn.out.1] at hvf5
          subst hvf5
          clear hown5 hg5 hnil5 hE5 hs5 HZ5
          have hA5 : Below w.heap.size w x5 := hA4.trans (hBn5.mono hA4.size)
          have hv5 := HS.keep hv4 hBn5 (Nat.le_refl _)
          have hr1c := HS.keep hr1b hBn5 (Nat.le_refl _)
          have hr2c := HS.keep hr2 hBn5 (Nat.le_refl _)
          clear hb4 hv4 hBn5 hA4
          go_wp2_with fail
          refine (Run_f [] B _ x5 hc5 (by decide) (by have := HLn.out.1; omega) HBs _ HR3).mono ?_
          rintro e x6 ⟨r3, rfl, hr3, hBn6⟩
          obtain ⟨ro3, rc3, rfl⟩ := Holds.form hr3
          have hA6 : Below w.heap.size w x6 := hA5.trans (hBn6.mono hA5.size)
          have hv6 := HS.keep hv5 hBn6 (Nat.le_refl _)
          have hr1d := HS.keep hr1c hBn6 (Nat.le_refl _)
          have hr2d := HS.keep hr2c hBn6 (Nat.le_refl _)
          clear hv5 hBn6 hA5 hc5
          go_wp2_with fail
          refine (seen_nil x6).mono ?_
          rintro e x7 ⟨rfl, hBn7⟩
          have hA7 : Below w.heap.size w x7 := hA6.trans (hBn7.mono hA6.size)
          have hv7 := HS.keep hv6 hBn7 (Nat.le_refl _)
          have hr7 := HS.keep hr3 hBn7 (Nat.le_refl _)
          have hr1e := HS.keep hr1d hBn7 (Nat.le_refl _)
          have hr2e := HS.keep hr2d hBn7 (Nat.le_refl _)
          go_wp2_with fail
          refine (seen_nil x7).mono ?_
          rintro e x8 ⟨rfl, hBn8⟩
          have hA8 : Below w.heap.size w x8 := hA7.trans (hBn8.mono hA7.size)
          have hv8 := HS.keep hv7 hBn8 (Nat.le_refl _)
          have hr8 := HS.keep hr7 hBn8 (Nat.le_refl _)
          have hr1f := HS.keep hr1e hBn8 (Nat.le_refl _)
          have hr2f := HS.keep hr2e hBn8 (Nat.le_refl _)
          go_wp2_with fail
          refine (SameS_any _ _ l x8 HRl.out hr1f hr2f).mono ?_
          rintro e x9 ⟨rfl, hBn9⟩
          have hA9 : Below w.heap.size w x9 := hA8.trans (hBn9.mono hA8.size)
          have hv9 := HS.keep hv8 hBn9 (Nat.le_refl _)
          have hr9 := HS.keep hr8 hBn9 (Nat.le_refl _)
          go_wp2_with fail
          refine (SameS_any _ _ V x9 (by have := HLn.out.2; omega) hr9 hv9).mono ?_
          rintro e x10 ⟨rfl, hBn10⟩
          go_wp2
          go_ret
          exact ⟨rfl, hA9.trans (hBn10.mono hA9.size)⟩
end Go.Proofs.YtnlbjknfahhfaaaGreatDoor
namespace Go.Proofs.YtnlbjknfahhfaaaGreatDoor.edfmtRaw
open Go.ChangeShapes Go.WideShapes Go.ChangeAt Go.RowKit
open Go.ChangeMaps (open_string shut_string)
theorem walk (t : List UInt8) (a : List (List UInt8)) (va : Value) (w : World) (hl : t.length + (a.length + a.flatten.length) ≤ 1048576) (ha : HS w va a) (HTb0 : Tab10 w) (hE : ErrT w) : Calls Tryz.prog 4 #[.string ⟨t.toArray⟩, va] w fun e w' => e = .returned (.bool true) ∧ Below w.heap.size w w' :=
  EdfmtRaw_any t a va w hl ha HTb0 hE

set_option maxRecDepth 100000 in
theorem contract (H : Type) (enc : TypeId × Value → H) (W : World) (base : Nat) (args : Array Value) (ds gs : List (DataW H)) (before : List MemPlace)
    (hval : ∀ (j : Nat) t v, Tryz.f4.params[j]? = some t → args[j]? = some v → Value.okWide Tryz.prog W .any base t v)
    (hW : DataW.Whole enc Tryz.prog Tryz.f4.params.toList Rows.edfmtRawSpec.vars false W args.toList ds gs before) (hL : laidMetH Tryz.prog Rows.edfmtRawUptoRow.laid W) (hk : Rows.uptoSmall H (ds ++ gs) = true) :
    Calls Tryz.prog 4 args W fun e W' => ∃ v, e = .returned v ∧ Rows.edfmtRawSpec.post enc Tryz.prog Tryz.f4 false true false false W args v W' := by
  have hW' := hW
  obtain ⟨p, q, hA0, hV, rfl, hfz, hnd⟩ := hW
  have hA : DataW.TrodAll enc Tryz.prog W 0 (fun _ => true) true Tryz.f4.params.toList args.toList ds p := hA0
  rw [Tryz.params4] at hA hval
  obtain ⟨v0, vs0, d0, ds0, p0, q0, hargs, rfl, rfl, h0, r0⟩ := trodAll_cons hA
  obtain ⟨v1, vs1, d1, ds1, p1, q1, rfl, rfl, rfl, h1, r1⟩ := trodAll_cons r0
  obtain ⟨rfl, rfl, rfl⟩ := trodAll_nil r1
  obtain rfl : args = #[v0, v1] := by cases args; simp_all
  obtain ⟨rfl, rfl⟩ := trodVars_none hV
  obtain ⟨a1, len1, cap1, rfl⟩ := okWide_slice Tryz.underlying23 (hval 1 23 v1 rfl rfl)
  have k1 := h1
  have lt1 : ∀ x ∈ p1, x.block < W.heap.size := by obtain ⟨m, hm⟩ := k1; exact DataW.trod_lt m _ _ _ hm
  obtain ⟨a0, rfl, rfl, rfl, wt0⟩ := open_string Tryz.underlying9 (hval 0 9 v0 rfl rfl) h0
  clear hA0
  simp only [List.append_nil] at hk
  have hbk : Rows.uptoBulkAll [.lit (.string a0.data.toList), d1] ≤ 1048576 := of_decide_eq_true hk
  simp only [Rows.uptoBulkAll] at hbk
  obtain ⟨f1, hf1⟩ := h1
  obtain ⟨ws1, hv1, hwl1⟩ := open_texts (by simpa [Value.cells] using hf1)
  have ht := Tb.tab_of Rows.edfmtRawUptoRow.laid rfl hL
  have hw := walk a0.data.toList ws1 (.slice a1 len1 cap1) W (by simp only [Rows.uptoBulk] at hbk; omega) hv1 (fun u hu => var?_below hu Tb.gTab (Tb.tab_lt ht) ht) (Et.met Rows.edfmtRawUptoRow.laid rfl hL)
  refine hw.mono fun e W' ⟨he, bel⟩ => ?_
  subst he
  exact ⟨_, rfl, _, _, _, [], _, [], hW', trodAll_mk1 (shut_bool Tryz.underlying4 _), trodAll_cons_mk (shut_string Tryz.underlying9 wt0) (trodAll_cons_mk (Below.trod laidOut (by kernel_rfl) (of_decide_eq_true (by kernel_rfl)) k1 bel lt1) trodAll_mk0), rfl, bel.frame _, fun h => by cases h⟩

theorem laid_met (os : Os) : laidMetH Tryz.prog Rows.edfmtRawUptoRow.laid ((Tt.laidOn (World.holding Tryz.prog os ⟨#[], #[], []⟩)).forCall (fun _ _ => 0) ⟨#[], #[.string .empty, .slice none 0 0], []⟩).memory :=
  laidMetH_of_parts (laidMet_of_run' 8 (by kernel_rfl) (by kernel_rfl)) (by kernel_rfl)
theorem reads (os : Os) {H : Type} (enc : TypeId × Value → H) : ∃ places, DataW.whole enc Tryz.prog ((Tt.laidOn (World.holding Tryz.prog os ⟨#[], #[], []⟩)).forCall (fun _ _ => 0) ⟨#[], #[.string .empty, .slice none 0 0], []⟩).memory Tryz.f4.params.toList Rows.edfmtRawSpec.vars false #[Value.string .empty, Value.slice none 0 0].toList 8 = some ([.lit (.string []), .nil], [], places) :=
  ⟨[], by kernel_rfl⟩

set_option maxRecDepth 100000 in
theorem lifted (os : Os) (started : os.Started) (H : Type) (enc : TypeId × Value → H) (F : Stop.Interp) :
    ReturnsInHanded {} Tryz.checked os 4 .any ((Rows.OpenSpec.upto Rows.edfmtRawSpec).preRow enc Tryz.prog Tryz.f4 Rows.edfmtRawUptoRow.domain false Rows.edfmtRawUptoRow.laid) (((Rows.OpenSpec.upto Rows.edfmtRawSpec).at F).post enc Tryz.prog Tryz.f4 false true false false) := by
  obtain ⟨places, hx⟩ := reads os enc
  refine returnsInHanded_of_row (C := Tryz.checked) (s := Rows.OpenSpec.upto Rows.edfmtRawSpec) own started (by kernel_rfl) Tryz.func4
    (witness_row_at (enc := enc) (C := Tryz.checked) false (Tt.laidOn (World.holding Tryz.prog os ⟨#[], #[], []⟩)) #[.string .empty, .slice none 0 0] rfl (by kernel_rfl) (by kernel_rfl) (by kernel_rfl)
      (OpenSpec.preRow_of_cond 8 hx (by kernel_rfl) (fun k hk => by cases hk; kernel_rfl) (by kernel_rfl) (laid_met os))) ?_
  intro W base args ds gs before hval hW _ hcond _ hL _ _
  exact contract H enc W base args ds gs before hval hW hL (hcond _ rfl)

theorem said : Rows.EdfmtRawUptoSaid :=
  OpenClaim.holds_of_cond 4 Tryz.f4 rfl rfl rfl rfl rfl rfl rfl ⟨rfl, rfl, rfl, rfl, rfl⟩ rfl rfl rfl rfl rfl (by kernel_rfl) Tryz.func4 (by kernel_rfl)
    (of_decide_eq_true (by kernel_rfl)) (by unfold Func.isWrapper; first | (rw [if_pos (by decide +kernel)]; kernel_rfl) | (rw [if_neg (by decide +kernel)]; exact ⟨rfl, rfl⟩))
    (fun os started H enc _ F => by rw [OpenClaim.pre_eq_preRow]; exact lifted os started H enc F)

theorem plain (f : FuncId) (fn : Func) (hf : Tryz.pinned.checked.prog.funcNamed "redline/redlinelaw13.EdfmtRaw" = some f) (hfn : Tryz.pinned.checked.prog.funcs[f]? = some fn) :
    true = Tryz.pinned.checked.prog.looks [] ∧ ∀ (j : Nat) t, fn.params[j]? = some t → Tryz.pinned.checked.prog.wantsStandIn t = false := by
  obtain rfl : f = 4 := Option.some.inj ((show Tryz.prog.funcNamed "redline/redlinelaw13.EdfmtRaw" = some 4 by kernel_rfl).symm.trans hf) |>.symm
  obtain rfl : fn = Tryz.f4 := (Option.some.inj (Tryz.func4.symm.trans hfn)).symm
  refine ⟨by kernel_rfl, fun j t ht => ?_⟩
  rw [Tryz.params4] at ht
  have hm : t = 9 ∨ t = 23 := by simpa using Array.mem_of_getElem? ht
  rcases hm with rfl | rfl
  · exact (show Tryz.prog.wantsStandIn 9 = false by kernel_rfl)
  · exact (show Tryz.prog.wantsStandIn 23 = false by kernel_rfl)

theorem card : Rows.EdfmtRawUptoCardSaid :=
  Claim7.holds_tied_plain_at .later [] _ _ _ _ said (fun _ h => by cases h) (by kernel_rfl) (fun _ h => by cases h) edfmtRawUpto_row_tie rfl ⟨rfl, rfl⟩ (by kernel_rfl) rfl plain (by kernel_rfl)
#print axioms card
end Go.Proofs.YtnlbjknfahhfaaaGreatDoor.edfmtRaw
