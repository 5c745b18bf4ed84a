/-
  Texts that belong together, joined: CpB, CpC, CpD, CpE, CwA, CwB, CwE.
-/
import Derived.Test.YtgiojkhmkeocfaaGreatDoorPartF2
import Derived.Deep.DeepCutAuto
import Derived.Deep.CutBlock
import Derived.Test.YtgiojkhmkeocfaaGreatDoorPartA5
import Derived.Test.YtgiojkhmkeocfaaGreatDoorPartA1
import Derived.Lib.FrozenHead2
import Derived.Test.YtgiojkhmkeocfaaGreatDoorProg
import Derived.Shelf.Strings.Builder1
import Derived.WalkKit
import Derived.WalkSpells
import Derived.WalkLawsBesides
import Derived.BigQuiet
import Derived.Test.YtgiojkhmkeocfaaGreatDoorPartA7

/- The code's names, numbers, stars and signs of a side (layer 15), walked. -/
set_option maxRecDepth 20000
namespace Go.Proofs.YtgiojkhmkeocfaaGreatDoor
open Go.RowKit Go.Proofs.YtgiojkhmkeocfaaGreatDoor.Tx
attribute [local go_sem] ByteArray.extract_mk no_at

theorem body_len (n : Nat) : ∀ (t a b : List UInt8), t.length ≤ n → Q.body t = some (a, b) → a.length ≤ t.length := by
  induction n with
  | zero =>
    intro t a b h hb
    have : t = [] := List.eq_nil_of_length_eq_zero (by omega)
    subst this
    cases hb
  | succ n ih =>
    intro t a b h hb
    cases t with
    | nil => cases hb
    | cons c t =>
      simp only [List.length_cons] at h ⊢
      rw [Q.body.eq_def] at hb
      simp only at hb
      split at hb
      · cases hb; simp
      · split at hb
        · obtain ⟨p, hp, he⟩ := Option.map_eq_some_iff.1 hb
          cases he
          have := ih t p.1 p.2 (by omega) hp
          simp only [List.length_cons]
          omega
        · split at hb
          · split at hb
            · rename_i x y t'
              simp only [List.length_cons] at h ⊢
              split at hb
              · obtain ⟨p, hp, he⟩ := Option.map_eq_some_iff.1 hb
                cases he
                have := ih t' p.1 p.2 (by omega) hp
                simp only [List.length_cons]
                omega
              · cases hb
            · cases hb
          · cases hb
theorem uqa_len (s : List UInt8) : (Q.uqa s).length ≤ s.length := by
  cases hu : Q.unquote s with
  | none => rw [(Q.uq_none hu).1]; simp
  | some p =>
    obtain ⟨a, b⟩ := p
    rw [(Q.uq_some hu).1]
    cases s with
    | nil => cases hu
    | cons c t =>
      simp only [Q.unquote] at hu
      split at hu
      · have := body_len t.length t a b (Nat.le_refl _) hu
        simp only [List.length_cons]
        omega
      · cases hu
theorem head_pre (s : List UInt8) : Lib.hasPrefix s [34] = (s.head? == some 34) := by
  cases s with
  | nil => rfl
  | cons c t =>
    show ((34 == c) && true) = (some c == some 34)
    rw [Bool.and_true, Bool.eq_iff_iff, beq_iff_eq, beq_iff_eq, Option.some.injEq]
    exact ⟨fun h => h.symm, fun h => h.symm⟩
/-- the name that a text stands for, or why it stands for none -/
def pnV (r : Bool) (n : List UInt8) : Value := if r = true then .tuple #[.string ⟨n.toArray⟩, .int .i64 0] else .tuple #[.string ⟨#[]⟩, .int .i64 253]
set_option maxHeartbeats 4000000 in
set_option maxRecDepth 40000 in
theorem cnamed_f (s : List UInt8) (w : World) (hl : s.length ≤ 1099511627776) (n : List UInt8) (r : Bool) (HN : Hid (unC s = n)) (HR : Hid (nokC s = r)) :
    Calls Tryz.prog 146 #[.string ⟨s.toArray⟩] w fun e w' => e = .returned (pnV r n) ∧ Below w.heap.size w w' := by
  have hnl : n.length ≤ 1099511627776 := (by
    rw [← HN.out]
    unfold unC
    split
    · simp
    · split
      · have := uqa_len s
        omega
      · exact hl)
  obtain ⟨T, hT⟩ : ∃ T, nameT n = T := ⟨_, rfl⟩
  have hnm := fun u => cname_f n u hnl T hT
  have HF : Hid ((decide (n.length ≤ 64) && (T == s)) = r) := (by
    have h := HR.out
    unfold nokC at h
    rw [HN.out, hT] at h
    exact h)
  have hhp : ∀ (b : Bool), (s.head? == some 34) = b → ∀ u, Calls Tryz.prog 149 #[.string ⟨s.toArray⟩, .string ⟨#[34]⟩] u fun e w' => e = .returned (.bool b) ∧ w' = u := (by
    intro b hb u
    refine (Tryz.strings_HasPrefix ⟨s.toArray⟩ ⟨#[34]⟩ u).mono ?_
    rintro e w' ⟨rfl, rfl⟩
    have e1 : Lib.hasPrefix (⟨s.toArray⟩ : ByteArray).data.toList (⟨#[34]⟩ : ByteArray).data.toList = b := (head_pre s).trans hb
    rw [e1]
    exact ⟨rfl, rfl⟩)
  have huq := fun u => Unquote_any s u hl
  clear hT HR
  go_enter Tryz.func146, Tryz.ntmps146
  go_upto_block 0 with fail
  go_cut [4] (fun nv wz => nv = .string ⟨n.toArray⟩ ∧ Below w.heap.size w wz)
  case first =>
    by_cases h1 : s = devN
    · have e1 : (s == [47, 100, 101, 118, 47, 110, 117, 108, 108]) = true := (by rw [beq_iff_eq]; exact h1)
      have HE : Hid ([] = n) := (by have h := HN.out; unfold unC at h; rw [if_pos h1] at h; exact h)
      clear h1
      go_wp2
      go_meet
      case rel => exact ⟨by rw [← HE.out], Below.refl _ _⟩
    · have e1 : (s == [47, 100, 101, 118, 47, 110, 117, 108, 108]) = false := beq_eq_false_iff_ne.2 h1
      by_cases h2 : s.head? = some 34
      · have HE : Hid (Q.uqa s = n) := (by have h := HN.out; unfold unC at h; rw [if_neg h1, if_pos h2] at h; exact h)
        have hc := hhp true (beq_iff_eq.2 h2)
        clear h1 h2
        go_wp2_with fail
        refine (hc _).mono ?_
        rintro e w1 ⟨rfl, rfl⟩
        go_wp2_with fail
        refine (huq _).mono ?_
        rintro e w2 ⟨rfl, hB2⟩
        go_wp2
        go_meet
        case rel => exact ⟨by rw [← HE.out], hB2⟩
      · have HE : Hid (s = n) := (by have h := HN.out; unfold unC at h; rw [if_neg h1, if_neg h2] at h; exact h)
        have hc := hhp false (beq_eq_false_iff_ne.2 h2)
        clear h1 h2
        go_wp2_with fail
        refine (hc _).mono ?_
        rintro e w1 ⟨rfl, rfl⟩
        go_wp2
        go_meet
        case rel => exact ⟨by rw [← HE.out], Below.refl _ _⟩
  case rest =>
  obtain ⟨rfl, hBc⟩ := hcut
  by_cases h3 : n.length ≤ 64
  · have i1 : ¬ (64 : Int) < (n.length : Int) := by omega
    cases h4 : T == s with
    | true =>
      have HE : Hid (true = r) := (by have h := HF.out; rw [decide_eq_true h3, Bool.true_and, h4] at h; exact h)
      have h5 : (T != s) = false := (by unfold bne; rw [h4]; rfl)
      clear HF
      go_wp2_with fail
      refine (hnm _).mono ?_
      rintro e w2 ⟨rfl, hB2⟩
      go_wp2
      go_ret2
      exact ⟨by rw [← HE.out]; rfl, hBc.trans (hB2.mono hBc.size)⟩
    | false =>
      have HE : Hid (false = r) := (by have h := HF.out; rw [decide_eq_true h3, Bool.true_and, h4] at h; exact h)
      have h5 : (T != s) = true := (by unfold bne; rw [h4]; rfl)
      clear HF
      go_wp2_with fail
      refine (hnm _).mono ?_
      rintro e w2 ⟨rfl, hB2⟩
      go_wp2
      go_ret2
      exact ⟨by rw [← HE.out]; rfl, hBc.trans (hB2.mono hBc.size)⟩
  · have HE : Hid (false = r) := (by have h := HF.out; rw [decide_eq_false h3, Bool.false_and] at h; exact h)
    have i1 : (64 : Int) < (n.length : Int) := by omega
    clear HF
    go_wp2
    go_ret2
    exact ⟨by rw [← HE.out]; rfl, hBc⟩
/-- what a name leaves behind -/
def NmX (R : Nat) (X : Except (Nat × Int) (List UInt8 × List (List UInt8))) (w : World) (x : Ending) (w' : World) : Prop :=
  match X with
  | .error (a, e) => Thr (a : Int) e x w' ∧ w.grownBy w' (some R)
  | .ok (s, _) => x = .returned (.string ⟨s.toArray⟩) ∧ Below w.heap.size w w'
theorem nam_bar {hd : List UInt8} (h4 : hd.length = 4) (p : Nat) (ls : List (List UInt8)) : namP hd p ls = match barP hd p ls with
    | .error e => .error e
    | .ok (s, r) => if nokC s = true then .ok (unC s, r) else .error (p + 1, 253) := by
  unfold namP barP
  cases nxt p ls with
  | error e => rfl
  | ok z =>
    obtain ⟨s, r⟩ := z
    dsimp only
    split
    · rw [h4, named_code]
      split
      · rename_i hq
        dsimp only
        split at hq
        · cases hq
        · rename_i h2
          rw [if_neg h2]
      · rename_i nn hq
        dsimp only
        split at hq
        · rename_i h2
          cases hq
          rw [if_pos h2]
        · cases hq
    · rfl
set_option maxHeartbeats 4000000 in
theorem cnm_f {R : Nat} {L : List (List UInt8)} {lo : Option Addr} {lc : Nat} {p : Nat} (hd : List UInt8) (h4 : hd.length = 4) (w : World) (q : Ck w R (.slice lo L.length lc) p) (hL : HS w (.slice lo L.length lc) L) (hp : p ≤ L.length) (hLl : L.length ≤ 2199023255552) (hs : ∀ s ∈ L, s.length ≤ 1099511627776)
    (X : Except (Nat × Int) (List UInt8 × List (List UInt8))) (HX : Hid (namP hd p (L.drop p) = X)) :
    Calls Tryz.prog 93 #[.pointer (some ⟨R, 0, none⟩), .string ⟨hd.toArray⟩] w fun x w' => NmX R X w x w' := by
  obtain ⟨Y, hY⟩ : ∃ Y, barP hd p (L.drop p) = Y := ⟨_, rfl⟩
  have hl := cbare_f hd w q hL hp hLl hs Y hY
  have hX := HX.out
  rw [nam_bar h4, hY] at hX
  clear HX
  cases Y with
  | error z =>
    obtain ⟨a, e⟩ := z
    dsimp only at hX
    subst hX
    go_enter Tryz.func93, Tryz.ntmps93
    go_wp2_with fail
    refine hl.mono ?_
    rintro x w1 ⟨⟨g, rfl, hg⟩, hgr⟩
    go_wp2
    exact ⟨rfl, ⟨_, rfl, hg⟩, hgr⟩
  | ok z =>
    obtain ⟨s, r⟩ := z
    dsimp only at hX
    have hsl : s.length ≤ 1099511627776 := (by
      unfold barP at hY
      cases hn : nxt p (L.drop p) with
      | error e => rw [hn] at hY; cases hY
      | ok z =>
        obtain ⟨s2, r2⟩ := z
        rw [hn] at hY
        dsimp only at hY
        obtain ⟨_, hpl, _, hLp⟩ := nxt_rest hn
        have hsl := hs L[p] (List.getElem_mem hpl)
        rw [hLp, List.length_append] at hsl
        split at hY
        · cases hY
          rw [List.length_drop]
          omega
        · cases hY)
    obtain ⟨n, hn⟩ : ∃ n, unC s = n := ⟨_, rfl⟩
    obtain ⟨b, hb⟩ : ∃ b, nokC s = b := ⟨_, rfl⟩
    have hf := fun u => cnamed_f s u hsl n b hn hb
    rw [hn, hb] at hX
    have hl2 : Calls Tryz.prog 147 #[.pointer (some ⟨R, 0, none⟩), .string ⟨hd.toArray⟩] w fun x w' => x = .returned (.string ⟨s.toArray⟩) ∧ ∃ n, w' = w.drewN n := hl
    clear hY hl hn hb
    cases b with
    | true =>
      rw [if_pos rfl] at hX
      subst hX
      have hf2 : ∀ u, Calls Tryz.prog 146 #[.string ⟨s.toArray⟩] u fun e w' => e = .returned (.tuple #[.string ⟨n.toArray⟩, .int .i64 0]) ∧ Below u.heap.size u w' := hf
      clear hf
      go_enter Tryz.func93, Tryz.ntmps93
      go_wp2_with fail
      refine hl2.mono ?_
      rintro x w1 ⟨rfl, nn, rfl⟩
      go_wp2_with fail
      refine (hf2 _).mono ?_
      rintro x w2 ⟨rfl, hB2⟩
      go_wp2
      go_ret
      exact ⟨rfl, (Below.dN (Below.refl _ w) nn).trans hB2⟩
    | false =>
      rw [if_neg (by decide)] at hX
      subst hX
      have hf2 : ∀ u, Calls Tryz.prog 146 #[.string ⟨s.toArray⟩] u fun e w' => e = .returned (.tuple #[.string ⟨#[]⟩, .int .i64 253]) ∧ Below u.heap.size u w' := hf
      clear hf
      have q2 := fun nn => q.dN nn
      go_enter Tryz.func93, Tryz.ntmps93
      go_wp2_with fail
      refine hl2.mono ?_
      rintro x w1 ⟨rfl, nn, rfl⟩
      go_wp2_with fail
      refine (hf2 _).mono ?_
      rintro x w2 ⟨rfl, hB2⟩
      have q3 := (q2 nn).low hB2
      go_wp2_with fail
      refine (crefuse_f 253 _ q3 (by omega)).mono ?_
      rintro e w3 ⟨⟨g, rfl, hg⟩, hgr⟩
      go_wp2
      exact ⟨rfl, ⟨_, rfl, by simpa using hg⟩, grown_two (low_grown ((Below.dN (Below.refl _ w) nn).trans hB2) _) hgr⟩
end Go.Proofs.YtgiojkhmkeocfaaGreatDoor

/- The code's numbers, stars and signs of a side (layer 15), walked. -/
set_option maxRecDepth 20000
namespace Go.Proofs.YtgiojkhmkeocfaaGreatDoor
open Go.RowKit
attribute [local go_sem] ByteArray.extract_mk no_at

/-- what numbers answers -/
def NcQ (w : World) (s : List UInt8) (e : Ending) (w' : World) : Prop := ∃ x n r, e = .returned (.tuple #[.int .i64 x, .int .i64 n, .bool r]) ∧ nmC s = (if r = true then some (x, n) else none) ∧ Below w.heap.size w w'
set_option maxHeartbeats 4000000 in
theorem cnumbers_f (s : List UInt8) (w : World) (hl : s.length ≤ 1099511627776) :
    Calls Tryz.prog 206 #[.string ⟨s.toArray⟩] w fun e w' => NcQ w s e w' := by
  have hkl := kA_le s
  have b1 := @prs_num (kA s)
  have b2 := @prs_num (kB s)
  obtain ⟨V1, hV1⟩ : ∃ V, Pn.parseV (kA s) = V := ⟨_, rfl⟩
  obtain ⟨E1, hE1⟩ : ∃ V, Pn.parseE (kA s) = V := ⟨_, rfl⟩
  obtain ⟨V2, hV2⟩ : ∃ V, Pn.parseV (kB s) = V := ⟨_, rfl⟩
  obtain ⟨E2, hE2⟩ : ∃ V, Pn.parseE (kB s) = V := ⟨_, rfl⟩
  have P1 : ∀ u : World, Calls Tryz.prog 245 #[.string ⟨(kA s).toArray⟩] u fun e w' => e = .returned (.tuple #[.int .i64 V1, .int .i64 E1]) ∧ Below u.heap.size u w' := (by
    intro u
    have h := nParse_any (kA s) u (by unfold maxLen; omega)
    rw [hV1, hE1] at h
    exact h)
  have P2 : ∀ u : World, Calls Tryz.prog 245 #[.string ⟨(kB s).toArray⟩] u fun e w' => e = .returned (.tuple #[.int .i64 V2, .int .i64 E2]) ∧ Below u.heap.size u w' := (by
    intro u
    have h := nParse_any (kB s) u (by unfold maxLen; omega)
    rw [hV2, hE2] at h
    exact h)
  rw [hV1] at b1
  rw [hV2] at b2
  have HM : Hid (nmC s = if E1 = 0 then if kS s = true then if E2 = 0 ∧ 0 < V1 ∧ V1 < V2 then some (V1, V2) else none else some (V1, V1) else none) := (by
    show _ = _
    unfold nmC
    rw [hV1, hE1, hV2, hE2])
  have C1 := nCut_f s w hl
  obtain ⟨ks, hks⟩ : ∃ k, kS s = k := ⟨_, rfl⟩
  rw [hks] at C1 HM
  clear hV1 hE1 hV2 hE2 hks
  by_cases he1 : E1 = 0
  · have f1 : (E1 != 0) = false := by simp [he1]
    have f2 : (E1 == 0) = true := by simp [he1]
    cases ks with
    | false =>
      have HN : Hid (nmC s = some (V1, V1)) := (by have h := HM.out; rw [if_pos he1, if_neg (by decide)] at h; exact h)
      clear HM he1 P2
      go_enter Tryz.func206, Tryz.ntmps206
      go_wp2_with fail
      refine C1.mono ?_
      rintro e w1 ⟨rfl, n, rfl⟩
      go_wp2_with fail
      refine (P1 _).mono ?_
      rintro e w2 ⟨rfl, hb2⟩
      go_wp2
      go_ret3
      exact ⟨_, _, _, rfl, HN.out, (Below.dN (Below.refl _ w) n).trans hb2⟩
    | true =>
      have HN : Hid (nmC s = if E2 = 0 ∧ 0 < V1 ∧ V1 < V2 then some (V1, V2) else none) := (by have h := HM.out; rw [if_pos he1, if_pos rfl] at h; exact h)
      clear HM he1
      go_enter Tryz.func206, Tryz.ntmps206
      go_wp2_with fail
      refine C1.mono ?_
      rintro e w1 ⟨rfl, n, rfl⟩
      go_wp2_with fail
      refine (P1 _).mono ?_
      rintro e w2 ⟨rfl, hb2⟩
      go_wp2_with fail
      refine (P2 _).mono ?_
      rintro e w3 ⟨rfl, hb3⟩
      have hb23 := (Below.dN (Below.refl _ w) n).trans (hb2.trans (hb3.mono hb2.size))
      by_cases h1 : E2 = 0
      · have g1 : (E2 == 0) = true := by simp [h1]
        by_cases h2 : 0 < V1
        · have HN2 : Hid (nmC s = if decide (V1 < V2) = true then some (V1, V2) else none) := (by
            show _ = _
            rw [HN.out]
            simp [h1, h2])
          clear HN h1
          go_wp2
          go_ret3
          exact ⟨_, _, _, rfl, HN2.out, hb23⟩
        · have HN2 : Hid (nmC s = none) := (by have h := HN.out; rw [if_neg (by simp [h2])] at h; exact h)
          clear HN h1
          go_wp2
          go_ret3
          exact ⟨_, _, _, rfl, HN2.out, hb23⟩
      · have g1 : (E2 == 0) = false := by simp [h1]
        have HN2 : Hid (nmC s = none) := (by have h := HN.out; rw [if_neg (by simp [h1])] at h; exact h)
        clear HN h1
        go_wp2
        go_ret3
        exact ⟨_, _, _, rfl, HN2.out, hb23⟩
  · have f1 : (E1 != 0) = true := by simp [he1]
    have f2 : (E1 == 0) = false := by simp [he1]
    have HN : Hid (nmC s = none) := (by have h := HM.out; rw [if_neg he1] at h; exact h)
    clear HM he1 P2
    go_enter Tryz.func206, Tryz.ntmps206
    go_wp2_with fail
    refine C1.mono ?_
    rintro e w1 ⟨rfl, n, rfl⟩
    go_wp2_with fail
    refine (P1 _).mono ?_
    rintro e w2 ⟨rfl, hb2⟩
    go_wp2
    go_ret3
    exact ⟨_, _, _, rfl, HN.out, (Below.dN (Below.refl _ w) n).trans hb2⟩
theorem sd_two (sg a b : UInt8) (t : List UInt8) : isSd sg (a :: b :: t) = (decide (b.toNat = 32) && (decide (a.toNat = 32) || decide (a.toNat = 33) || decide (a.toNat = sg.toNat))) := by
  simp only [isSd]
  rw [Bool.eq_iff_iff]
  simp only [Bool.and_eq_true, Bool.or_eq_true, beq_iff_eq, decide_eq_true_eq, ← UInt8.toNat_inj]
  constructor
  · rintro ⟨(h | h) | h, h2⟩ <;> exact ⟨h2, by simp [h]⟩
  · rintro ⟨h2, (h | h) | h⟩ <;> exact ⟨by simp [h], h2⟩
set_option maxHeartbeats 4000000 in
theorem cisShown_f (l : List UInt8) (sg : UInt8) (w : World) (hl : l.length ≤ 1099511627776) (r : Bool) (HR : Hid (isSd sg l = r)) :
    Calls Tryz.prog 207 #[.string ⟨l.toArray⟩, .int .u8 (sg.toNat : Int)] w fun e w' => e = .returned (.bool r) ∧ w' = w := by
  match l, hl, HR with
  | [], _, HR =>
    have HE : Hid (false = r) := HR
    go_enter Tryz.func207, Tryz.ntmps207
    go_wp2
    go_ret
    exact ⟨by rw [← HE.out]; rfl, rfl⟩
  | [a], _, HR =>
    have HE : Hid (false = r) := HR
    go_enter Tryz.func207, Tryz.ntmps207
    go_wp2
    go_ret
    exact ⟨by rw [← HE.out]; rfl, rfl⟩
  | a :: b :: t, hl, HR =>
    have HR2 := HR.out
    rw [sd_two] at HR2
    have ha := a.toNat_lt
    have hb := b.toNat_lt
    have hs := sg.toNat_lt
    simp only [List.length_cons] at hl
    have i1 : ¬ (t.length : Int) + 1 + 1 < 2 := by omega
    have i2 : (1 : Int) < (t.length : Int) + 1 + 1 := by omega
    have i3 : (0 : Int) < (t.length : Int) + 1 + 1 := by omega
    by_cases h1 : b.toNat = 32
    · have e1 : ((b.toNat : Int) != 32) = false := by simp; omega
      rw [decide_eq_true h1, Bool.true_and] at HR2
      by_cases h2 : a.toNat = 32
      · have e2 : ((a.toNat : Int) == 32) = true := by simp; omega
        have HE : Hid (true = r) := (by show _ = _; rw [← HR2, decide_eq_true h2]; rfl)
        clear HR HR2 h1 h2
        go_enter Tryz.func207, Tryz.ntmps207
        go_wp2
        go_ret
        exact ⟨by rw [← HE.out]; rfl, rfl⟩
      · have e2 : ((a.toNat : Int) == 32) = false := by simp; omega
        rw [decide_eq_false h2, Bool.false_or] at HR2
        by_cases h3 : a.toNat = 33
        · have e3 : ((a.toNat : Int) == 33) = true := by simp; omega
          have HE : Hid (true = r) := (by show _ = _; rw [← HR2, decide_eq_true h3]; rfl)
          clear HR HR2 h1 h2 h3
          go_enter Tryz.func207, Tryz.ntmps207
          go_wp2
          go_ret
          exact ⟨by rw [← HE.out]; rfl, rfl⟩
        · have e3 : ((a.toNat : Int) == 33) = false := by simp; omega
          rw [decide_eq_false h3, Bool.false_or] at HR2
          have HE : Hid (((a.toNat : Int) == (sg.toNat : Int)) = r) := (by
            show _ = _
            rw [← HR2, Bool.eq_iff_iff, beq_iff_eq, decide_eq_true_eq]
            omega)
          clear HR HR2 h1 h2 h3
          go_enter Tryz.func207, Tryz.ntmps207
          go_wp2
          go_ret
          exact ⟨by rw [← HE.out]; rfl, rfl⟩
    · have e1 : ((b.toNat : Int) != 32) = true := by simp; omega
      have HE : Hid (false = r) := (by show _ = _; rw [← HR2, decide_eq_false h1]; rfl)
      clear HR HR2 h1
      go_enter Tryz.func207, Tryz.ntmps207
      go_wp2
      go_ret
      exact ⟨by rw [← HE.out]; rfl, rfl⟩
theorem pkS_at {L : List (List UInt8)} {p : Nat} (h : p < L.length) : pkS (L.drop p) = starsT.isPrefixOf L[p] := by
  rw [List.drop_eq_getElem_cons h]
  rfl
set_option maxHeartbeats 4000000 in
theorem catStars_f {R : Nat} {L : List (List UInt8)} {lo : Option Addr} {lc : Nat} {p : Nat} (w : World) (q : Ck w R (.slice lo L.length lc) p) (hL : HS w (.slice lo L.length lc) L) (hp : p ≤ L.length) (hLl : L.length ≤ 2199023255552) (r : Bool) (HR : Hid (pkS (L.drop p) = r)) :
    Calls Tryz.prog 95 #[.pointer (some ⟨R, 0, none⟩)] w fun x w' => x = .returned (.bool r) ∧ ∃ n, w' = w.drewN n := by
  obtain ⟨c0, c1⟩ := q.cells
  by_cases hlt : p < L.length
  · obtain ⟨bk, off, rfl, hbk, hcl⟩ := HS.at hL (by omega)
    have d4 := hcl p hlt
    have HR2 := HR.out
    rw [pkS_at hlt] at HR2
    generalize L[p] = s at d4 HR2
    have hd : decide ((p : Int) < (L.length : Int)) = true := decide_eq_true (by omega)
    have i1 : (0 : Int) ≤ (p : Int) := by omega
    have i2 : (p : Int) < (L.length : Int) := by omega
    have i3 : (p : Int).toNat = p := by omega
    have hhp : ∀ u, Calls Tryz.prog 149 #[.string ⟨s.toArray⟩, .string ⟨starsT.toArray⟩] u fun e w' => e = .returned (.bool r) ∧ w' = u := (by
      intro u
      refine (Tryz.strings_HasPrefix ⟨s.toArray⟩ ⟨starsT.toArray⟩ u).mono ?_
      rintro e w' ⟨rfl, rfl⟩
      have e1 : Lib.hasPrefix (⟨s.toArray⟩ : ByteArray).data.toList (⟨starsT.toArray⟩ : ByteArray).data.toList = r := HR2
      rw [e1]
      exact ⟨rfl, rfl⟩)
    clear hcl hL q HR HR2
    go_enter Tryz.func95, Tryz.ntmps95
    go_wp2_with fail
    go_quiet ((go_at_call 149; exact Calls.quiet_of_same (hhp _)))
    go_wp2
    go_ret
    exact ⟨rfl, _, rfl⟩
  · have HE : Hid (false = r) := (by have h := HR.out; rw [List.drop_of_length_le (by omega)] at h; exact h)
    have hd : decide ((p : Int) < (L.length : Int)) = false := decide_eq_false (by omega)
    clear hL q HR
    go_enter Tryz.func95, Tryz.ntmps95
    go_wp2_with fail
    go_quiet (fail)
    go_wp2
    go_ret
    exact ⟨by rw [← HE.out]; rfl, _, rfl⟩
/-- a line of stars -/
def starsP (k p : Nat) (ls : List (List UInt8)) : Except (Nat × Int) (List (List UInt8)) :=
  match nxt p ls with
  | .error e => .error e
  | .ok (s, r) => if isSt s = true then if 4096 ≤ k then .error (p + 1, 9) else .ok r else .error (p + 1, 3)
/-- what a line of stars leaves behind -/
def StX (R : Nat) (vL : Value) (p : Nat) (X : Except (Nat × Int) (List (List UInt8))) (w : World) (x : Ending) (w' : World) : Prop :=
  match X with
  | .error (a, e) => Thr (a : Int) e x w' ∧ w.grownBy w' (some R)
  | .ok _ => x = .returned (.int .i64 ((p : Int) + 1)) ∧ Ck w' R vL ((p + 1 : Nat) : Int) ∧ w.grownBy w' (some R)
theorem stars_bar (k p : Nat) (ls : List (List UInt8)) : starsP k p ls = match barP starsT p ls with
    | .error e => .error e
    | .ok (t, r) => if (t.isEmpty || t.head? == some 32) = true then if 4096 ≤ k then .error (p + 1, 9) else .ok r else .error (p + 1, 3) := by
  unfold starsP barP
  cases nxt p ls with
  | error e => rfl
  | ok z =>
    obtain ⟨s, r⟩ := z
    dsimp only
    unfold isSt
    by_cases h : starsT.isPrefixOf s = true
    · rw [h, Bool.true_and, if_pos rfl]
      rfl
    · rw [Bool.eq_false_iff.2 h, Bool.false_and, if_neg (by decide), if_neg (by decide)]
set_option maxHeartbeats 4000000 in
theorem cstars_f {R : Nat} {L : List (List UInt8)} {lo : Option Addr} {lc : Nat} {p k : Nat} (hk : k ≤ 4096) (w : World) (q : Ck w R (.slice lo L.length lc) p) (hL : HS w (.slice lo L.length lc) L) (hp : p ≤ L.length) (hLl : L.length ≤ 2199023255552) (hs : ∀ s ∈ L, s.length ≤ 1099511627776)
    (X : Except (Nat × Int) (List (List UInt8))) (HX : Hid (starsP k p (L.drop p) = X)) :
    Calls Tryz.prog 150 #[.pointer (some ⟨R, 0, none⟩), .int .i64 (k : Int)] w fun x w' => StX R (.slice lo L.length lc) p X w x w' := by
  obtain ⟨Y, hY⟩ : ∃ Y, barP starsT p (L.drop p) = Y := ⟨_, rfl⟩
  have hl := cbare_f starsT w q hL hp hLl hs Y hY
  have hX := HX.out
  rw [stars_bar, hY] at hX
  clear HX
  cases Y with
  | error z =>
    obtain ⟨a, e⟩ := z
    dsimp only at hX
    subst hX
    go_enter Tryz.func150, Tryz.ntmps150
    go_wp2_with fail
    refine hl.mono ?_
    rintro x w1 ⟨⟨g, rfl, hg⟩, hgr⟩
    go_wp2
    exact ⟨rfl, ⟨_, rfl, hg⟩, hgr⟩
  | ok z =>
    obtain ⟨t, r⟩ := z
    dsimp only at hX
    have hl2 : Calls Tryz.prog 147 #[.pointer (some ⟨R, 0, none⟩), .string ⟨starsT.toArray⟩] w fun x w' => x = .returned (.string ⟨t.toArray⟩) ∧ ∃ n, w' = w.drewN n := hl
    have q2 := fun nn => q.dN nn
    clear hY hl
    by_cases ht : (t.isEmpty || t.head? == some 32) = true
    · rw [if_pos ht] at hX
      go_enter Tryz.func150, Tryz.ntmps150
      go_wp2_with fail
      refine hl2.mono ?_
      rintro x w1 ⟨rfl, nn, rfl⟩
      go_upto_region 2 with fail
      go_cut [14] (fun cv wz => cv = .bool false ∧ wz = w.drewN nn)
      case first =>
        cases t with
        | nil =>
          go_wp2
          go_meet
          case rel => exact ⟨rfl, rfl⟩
        | cons c t =>
          have hc : c = 32 := (by simpa using ht)
          subst hc
          clear ht
          go_wp2
          go_meet
          case rel => exact ⟨rfl, rfl⟩
      case rest =>
      obtain ⟨rfl, rfl⟩ := hcut
      have q3 := q2 nn
      have g3 := grown_drewN (low_grown (Below.refl w.heap.size w) (some R)) nn
      generalize w.drewN nn = W1 at q3 g3 ⊢
      by_cases hk2 : 4096 ≤ k
      · rw [if_pos hk2] at hX
        subst hX
        have e1 : ((k : Int) == 4096) = true := beq_iff_eq.2 (by omega)
        go_wp2_with fail
        refine (crefuse_f 9 _ q3 (by omega)).mono ?_
        rintro e w3 ⟨⟨g, rfl, hg⟩, hgr⟩
        go_wp2
        exact ⟨rfl, ⟨_, rfl, by simpa using hg⟩, grown_two g3 hgr⟩
      · rw [if_neg hk2] at hX
        subst hX
        have e1 : ((k : Int) == 4096) = false := beq_eq_false_iff_ne.2 (by omega)
        obtain ⟨c0, c1⟩ := q3.cells
        have f1 := q3.frozen 1
        have q4 : Ck (W1.setCell ⟨R, 1, none⟩ (.int .i64 ((p : Int) + 1))) R (.slice lo L.length lc) (((p + 1 : Nat)) : Int) := (by have := q3.at ((p : Int) + 1); simpa using this)
        have g4 := grown_two g3 (grown_set W1 R 1 (.int .i64 ((p : Int) + 1)))
        clear q3 g3
        go_wp2
        go_ret
        exact ⟨rfl, q4, g4⟩
    · rw [if_neg ht] at hX
      subst hX
      cases t with
      | nil => exact absurd rfl ht
      | cons c t =>
        have hc : c ≠ 32 := (by simpa using ht)
        have hcl := c.toNat_lt
        have e1 : ((c.toNat : Int) != 32) = true := (by
          rw [bne_iff_ne]
          intro e
          apply hc
          rw [← UInt8.toNat_inj]
          show c.toNat = 32
          omega)
        have i1 : (0 : Int) < (t.length : Int) + 1 := by omega
        clear ht hc
        go_enter Tryz.func150, Tryz.ntmps150
        go_wp2_with fail
        refine hl2.mono ?_
        rintro x w1 ⟨rfl, nn, rfl⟩
        go_wp2_with fail
        refine (crefuse_f 3 _ (q2 nn) (by omega)).mono ?_
        rintro e w3 ⟨⟨g, rfl, hg⟩, hgr⟩
        go_wp2
        exact ⟨rfl, ⟨_, rfl, by simpa using hg⟩, grown_two (grown_drewN (low_grown (Below.refl w.heap.size w) (some R)) nn) hgr⟩
end Go.Proofs.YtgiojkhmkeocfaaGreatDoor

/- slices.Clone and slices.DeleteFunc at lines with signs, and the code's kept of layer 15, walked. -/
set_option maxRecDepth 20000
namespace Go.Proofs.YtgiojkhmkeocfaaGreatDoor
open Go.RowKit

/-- a row of lines in a block of its own -/
structure Mrow (w : World) (g n cap : Nat) (r : List Mk) : Prop where
  ex : ∃ cur : Array Value, w.heap[g]? = some (.cells cur 103 (0, 0)) ∧ cur.size = cap * 2 ∧ cur.toList.take (n * 2) = mkcells r
  le : n ≤ cap
  len : r.length = n
theorem mkcells_set (r : List Mk) : ∀ (i : Nat) (m : Mk), i < r.length → ((mkcells r).set (i * 2) (.int .u8 m.sg)).set (i * 2 + 1) (.string ⟨m.tx.toArray⟩) = mkcells (r.set i m) := by
  induction r with
  | nil => intro i m h; simp at h
  | cons x r ih =>
    intro i m h
    have e1 : mkcells (x :: r) = .int .u8 x.sg :: .string ⟨x.tx.toArray⟩ :: mkcells r := rfl
    cases i with
    | zero => rw [e1]; rfl
    | succ i =>
      have e2 : (i + 1) * 2 = i * 2 + 1 + 1 := by omega
      have e3 : mkcells ((x :: r).set (i + 1) m) = .int .u8 x.sg :: .string ⟨x.tx.toArray⟩ :: mkcells (r.set i m) := rfl
      rw [e1, e2, e3]
      simp only [List.set_cons_succ]
      rw [ih i m (by simpa using h)]
section
variable {w u : World} {g n cap : Nat} {r : List Mk}
theorem Mrow.low (h : Mrow w g n cap r) (hb : Below w.heap.size w u) : Mrow u g n cap r := by
  obtain ⟨⟨cur, h1, h2, h3⟩, hl, hn⟩ := h
  exact ⟨⟨cur, (hb.block g (Array.getElem?_eq_some_iff.1 h1).1).trans h1, h2, h3⟩, hl, hn⟩
theorem Mrow.lt (h : Mrow w g n cap r) : g < w.heap.size := by
  obtain ⟨⟨cur, h1, _⟩, _⟩ := h
  exact (Array.getElem?_eq_some_iff.1 h1).1
theorem Mrow.holds (h : Mrow w g n cap r) (k : Nat) (hk : k ≤ n) : HMk w (.slice (some ⟨g, 0, none⟩) k cap) (r.take k) := by
  obtain ⟨⟨cur, h1, h2, h3⟩, hl, hn⟩ := h
  have hlk : (r.take k).length = k := by rw [List.length_take]; omega
  unfold HMk
  rw [hlk]
  refine .inr ⟨⟨g, 0, none⟩, cap, rfl, by omega, fun j v hj => ?_⟩
  rw [← mkcells_take, ← h3, List.take_take] at hj
  have hjl : j < k * 2 := by
    have := (List.getElem?_eq_some_iff.1 hj).1
    rw [List.length_take] at this
    omega
  rw [List.getElem?_take_of_lt (by omega)] at hj
  rw [add_none, Nat.zero_add, Lib.cell_of_heap h1]
  simpa using hj
theorem Mrow.store (h : Mrow w g n cap r) (i : Nat) (hi : i < n) (m : Mk) : Mrow ((w.setCell ⟨g, i * 2, none⟩ (.int .u8 m.sg)).setCell ⟨g, i * 2 + 1, none⟩ (.string ⟨m.tx.toArray⟩)) g n cap (r.set i m) := by
  obtain ⟨⟨cur, h1, h2, h3⟩, hl, hn⟩ := h
  have s1 := heap_setCell_same w g (i * 2) cur _ (.int .u8 m.sg) h1
  have s2 := heap_setCell_same _ g (i * 2 + 1) _ _ (.string ⟨m.tx.toArray⟩) s1
  refine ⟨⟨_, s2, by simpa using h2, ?_⟩, hl, by simpa using hn⟩
  have e1 : ((cur.setIfInBounds (i * 2) (.int .u8 m.sg)).setIfInBounds (i * 2 + 1) (.string ⟨m.tx.toArray⟩)).toList = (cur.toList.set (i * 2) (.int .u8 m.sg)).set (i * 2 + 1) (.string ⟨m.tx.toArray⟩) := by simp
  rw [e1, List.take_set, List.take_set, h3, mkcells_set r i m (by omega)]
theorem Mrow.cells (h : Mrow w g n cap r) (i : Nat) (hi : i < n) : ∃ x y, w.cell? ⟨g, i * 2, none⟩ = some (.int .u8 x) ∧ w.cell? ⟨g, i * 2 + 1, none⟩ = some (.string y) := by
  have hh := h.holds n (Nat.le_refl _)
  have hl := h.len
  obtain ⟨b, off, he, hb, hcl⟩ := HMk.at hh (by rw [List.length_take]; omega)
  cases he
  have hc := hcl i (by rw [List.length_take]; omega)
  rw [Nat.zero_add] at hc
  exact ⟨_, _, hc.1, hc.2⟩
theorem Mrow.frozen (h : Mrow w g n cap r) (j : Nat) : w.frozen? ⟨g, j, none⟩ = false := by
  obtain ⟨⟨cur, h1, _⟩, _⟩ := h
  exact Lib.frozen_of_heap h1 j
end
theorem mrow_of {w : World} {B n : Nat} {v : Value} {l : List Mk} (h : w.ownsRow B 103 2 v n (mkcells l)) (h0 : 0 < n) : ∃ g cap, v = .slice (some ⟨g, 0, none⟩) n cap ∧ B ≤ g ∧ Mrow w g n cap l := by
  have hl := h.1
  rw [mkcells_length] at hl
  rcases h.2 with ⟨_, h1⟩ | ⟨g, cap, cur, rfl, q2, q3, q4, q5, q6, q7⟩
  · omega
  · exact ⟨g, cap, rfl, q2, ⟨cur, q3, q6, q7⟩, q4, by omega⟩
theorem run_clear_mk (w : World) (ty : TypeId) (g o n c : Nat) (cur : List Value) (hg : w.heap[g]? = some (.cells cur.toArray 103 (0, 0))) (hfit : o + n * 2 ≤ cur.length) :
    ∃ u, (Builtin.clear_ #[57] ty #[.slice (some ⟨g, o, none⟩) n c]).run Tryz.prog w = .ok (.tuple #[]) u ∧ w.grownBy u (some g) ∧ ∃ cur' : List Value, u.heap[g]? = some (.cells cur'.toArray 103 (0, 0)) ∧ cur'.length = cur.length ∧ cur'.take o = cur.take o := by
  have hT := Tryz.underlying57
  cases n with
  | zero => exact ⟨w, by simp [Builtin.clear_, run_underlying hT], World.grownBy.refl _ _, cur, hg, rfl, rfl⟩
  | succ n =>
    obtain ⟨zs, hzs⟩ : ∃ zs : List Value, (Builtin.zeroCells (Value.agg #[.int .u8 0, .string ⟨#[]⟩]).cells (n + 1)).toList = zs := ⟨_, rfl⟩
    have hzl : zs.length = (n + 1) * 2 := by rw [← hzs]; simp [Builtin.zeroCells, Value.cells]
    have hz1 : ∀ v ∈ zs, v.oneCell' = true := by
      intro v hv
      rw [← hzs] at hv
      simp [Builtin.zeroCells, Value.cells] at hv
      obtain ⟨k, hk, rfl⟩ := hv
      have : k % 2 = 0 ∨ k % 2 = 1 := by omega
      rcases this with h | h <;> simp [h] <;> rfl
    have hst := run_storeCells_at Tryz.prog g o _ zs 0 cur.toArray w hg (by simp; omega) hz1
    have hzv : (zeroValue 103).run Tryz.prog w = .ok (.agg #[.int .u8 0, .string ⟨#[]⟩]) w := by
      obtain ⟨i0, hi, hz0, _, _⟩ := info_parts infoMk
      simp [zeroValue, typeInfo, hi, hz0]
    refine ⟨w.setRow g (spl cur o zs).toArray, ?_, setRow_grown _ _ _, _, setRow_heap w g _ _ _ _ hg, spl_length (by omega), ?_⟩
    · simp [Builtin.clear_, run_underlying hT, hzv, hzs, hst, spl]
    · unfold spl
      rw [List.append_assoc, List.take_left' (by simp; omega)]
theorem idxI_first (p : Mk → Bool) (l : List Mk) : ∀ k, (idxI p k l = -1 ∧ ∀ m ∈ l, p m = false) ∨ ∃ i, ∃ h : i < l.length, idxI p k l = ((k + i : Nat) : Int) ∧ p l[i] = true ∧ ∀ m ∈ l.take i, p m = false := by
  induction l with
  | nil => intro k; exact .inl ⟨rfl, fun m hm => by cases hm⟩
  | cons x l ih =>
    intro k
    by_cases h : p x = true
    · refine .inr ⟨0, by simp, ?_, by simpa using h, by simp⟩
      have e : idxI p k (x :: l) = (k : Int) := if_pos h
      rw [e]; simp
    · have e : idxI p k (x :: l) = idxI p (k + 1) l := if_neg h
      rcases ih (k + 1) with ⟨h1, h2⟩ | ⟨i, hi, h1, h2, h3⟩
      · refine .inl ⟨e.trans h1, fun m hm => ?_⟩
        rcases List.mem_cons.1 hm with rfl | hm
        · exact Bool.eq_false_iff.2 h
        · exact h2 m hm
      · refine .inr ⟨i + 1, by simpa using hi, ?_, by simpa using h2, fun m hm => ?_⟩
        · rw [e, h1]; congr 1; omega
        · rw [List.take_succ_cons] at hm
          rcases List.mem_cons.1 hm with rfl | hm
          · exact Bool.eq_false_iff.2 h
          · exact h3 m hm
theorem kept_all {l : List Mk} (h : ∀ m ∈ l, (m.sg != 32) = false) : keptM l = l := by
  unfold keptM
  rw [List.filter_eq_self]
  intro m hm
  have := h m hm
  simpa using this
theorem kept_snoc (l : List Mk) (j : Nat) (hj : j < l.length) : keptM (l.take (j + 1)) = keptM (l.take j) ++ (if l[j].sg = 32 then [l[j]] else []) := by
  rw [List.take_succ_eq_append_getElem hj]
  unfold keptM
  rw [List.filter_append]
  congr 1
  by_cases h : l[j].sg = 32
  · rw [if_pos h]; simp [h]
  · rw [if_neg h]; simp [h]
set_option maxHeartbeats 1000000 in
theorem ckept1_f (m : Mk) (w : World) : Calls Tryz.prog 211 #[.agg #[.int .u8 m.sg, .string ⟨m.tx.toArray⟩]] w fun e w' => e = .returned (.bool (m.sg != 32)) ∧ Below w.heap.size w w' := by
  have hBl : Below w.heap.size w (w.alloc (.cells #[.int .u8 m.sg, .string ⟨m.tx.toArray⟩] 103)) := (Below.refl _ w).alloc (Nat.le_refl _) _
  have hc := cisKept_f m (w.alloc (.cells #[.int .u8 m.sg, .string ⟨m.tx.toArray⟩] 103))
  go_enter Tryz.func211, Tryz.ntmps211
  go_wp2_with fail
  refine hc.mono ?_
  rintro e w1 ⟨rfl, hB⟩
  go_wp2
  go_ret
  exact ⟨rfl, hBl.trans (hB.mono hBl.size)⟩
set_option maxHeartbeats 8000000 in
set_option maxRecDepth 40000 in
theorem cdelete_f (l : List Mk) (g n cap : Nat) (w : World) (hr : Mrow w g n cap l) (hn : n ≤ 1099511627776) :
    Calls Tryz.prog 209 #[.slice (some ⟨g, 0, none⟩) n cap, .func (.func 211) #[] #[]] w fun e w' => ∃ k, e = .returned (.slice (some ⟨g, 0, none⟩) k cap) ∧ HMk w' (.slice (some ⟨g, 0, none⟩) k cap) (keptM l) ∧ k = (keptM l).length ∧ w.grownBy w' (some g) := by
  have hln := hr.len
  have hcap := hr.le
  have hv : HMk w (.slice (some ⟨g, 0, none⟩) n cap) l := (by
    have h := hr.holds n (Nat.le_refl _)
    rw [List.take_of_length_le (by omega)] at h
    exact h)
  have hix := fun z HZ => cIdx_f 211 #[] l (fun m => m.sg != 32) (.slice (some ⟨g, 0, none⟩) n cap) w hv (by omega) (enters_of Tryz.func211 (by kernel_rfl) rfl) (fun m _ u _ => ckept1_f m u) z HZ
  rcases idxI_first (fun m => m.sg != 32) l 0 with ⟨h1, h2⟩ | ⟨i0, hi0, h1, h2, h3⟩
  · have hk : keptM l = l := kept_all h2
    have hc := hix (-1) h1
    have HH : Hid (∀ u, Below w.heap.size w u → HMk u (.slice (some ⟨g, 0, none⟩) n cap) (keptM l) ∧ n = (keptM l).length) := (by
      intro u hu
      rw [hk]
      exact ⟨hv.keep hu (Nat.le_refl _), hln.symm⟩)
    clear hix h1 h2 hk hv hr
    go_enter Tryz.func209, Tryz.ntmps209
    go_wp2_with fail
    refine hc.mono ?_
    rintro e w1 ⟨rfl, hB⟩
    go_wp2
    go_ret
    exact ⟨n, rfl, (HH.out w1 hB).1, (HH.out w1 hB).2, low_grown hB _⟩
  · have hc := hix (i0 : Int) (by show _ = _; rw [h1]; simp)
    have HI0 : Hid (l.take i0 = keptM (l.take (i0 + 1)) ∧ l.drop (i0 + 1) = l.drop (i0 + 1)) := ⟨by
      have h4 : ¬ l[i0].sg = 32 := by simpa using h2
      rw [kept_snoc l i0 hi0, if_neg h4, List.append_nil, kept_all h3], rfl⟩
    have j0 : ((i0 : Int) == -1) = false := beq_eq_false_iff_ne.2 (by omega)
    clear hix h1 h2 h3 hv
    go_enter Tryz.func209, Tryz.ntmps209
    go_wp2_with fail
    refine hc.mono ?_
    rintro e w1 ⟨rfl, hB⟩
    have hr1 := hr.low hB
    have hg1 := low_grown hB (some g)
    clear hc hr hB
    go_wp2
    go_loopw [5, 6] (fun iv jv wr => ∃ (i j : Nat) (r : List Mk), i < j ∧ j ≤ n ∧ iv = .int .i64 i ∧ jv = .int .i64 j ∧ Mrow wr g n cap r ∧ w.grownBy wr (some g) ∧ Hid (r.take i = keptM (l.take j) ∧ r.drop j = l.drop j)) (fun _ jv _ => n - (intOf jv).toNat)
    case atStart => exact ⟨i0, i0 + 1, l, by omega, by omega, rfl, by go_num, hr1, hg1, ⟨HI0.out.1, rfl⟩⟩
    case round =>
    clear HI0 hr1 hg1
    obtain ⟨i, j, r, hij, hj, rfl, rfl, hr, hg, HI⟩ := hrel
    by_cases hlt : j < n
    · have hh := hr.holds n (Nat.le_refl _)
      obtain ⟨b, off, he, hb, hcl⟩ := HMk.at hh (by rw [List.length_take]; have := hr.len; omega)
      have he2 : b = g ∧ off = 0 := (by cases he; exact ⟨rfl, rfl⟩)
      obtain ⟨rfl, rfl⟩ := he2
      have hrl := hr.len
      have hcj := hcl j (by rw [List.length_take]; omega)
      have hrj : (r.take n)[j]'(by rw [List.length_take]; omega) = l[j]'(by omega) := (by
        have h := congrArg (fun x => x[0]?) HI.out.2
        simp only [List.getElem?_drop, Nat.add_zero] at h
        rw [List.getElem?_eq_getElem (by omega), List.getElem?_eq_getElem (by omega), Option.some.injEq] at h
        rw [List.getElem_take, h])
      rw [hrj] at hcj
      obtain ⟨c0, c1⟩ := hcj
      rw [Nat.zero_add] at c0 c1
      have HK := kept_snoc l j (by omega)
      obtain ⟨m, hm⟩ : ∃ m, l[j]'(by omega) = m := ⟨_, rfl⟩
      rw [hm] at c0 c1 HK
      have i1 : (0 : Int) ≤ (j : Int) := by omega
      have i2 : (j : Int) < (n : Int) := by omega
      have i3 : (0 : Int) ≤ (i : Int) := by omega
      have i4 : (i : Int) < (n : Int) := by omega
      have hBm : Below wr.heap.size wr (wr.alloc (.cells #[.int .u8 m.sg, .string ⟨m.tx.toArray⟩] 103)) := (Below.refl _ wr).alloc (Nat.le_refl _) _
      have hkc := ckept1_f m (wr.alloc (.cells #[.int .u8 m.sg, .string ⟨m.tx.toArray⟩] 103))
      have hMb : (wr.alloc (.cells #[.int .u8 m.sg, .string ⟨m.tx.toArray⟩] 103)).heap[wr.heap.size]? = some (.cells #[.int .u8 m.sg, .string ⟨m.tx.toArray⟩] 103) := heap_alloc_new wr _
      have hMl : wr.heap.size < (wr.alloc (.cells #[.int .u8 m.sg, .string ⟨m.tx.toArray⟩] 103)).heap.size := by simp
      clear hcl hrj hh he hb
      by_cases hs : m.sg = 32
      · have e1 : (m.sg != 32) = false := by simp [hs]
        rw [e1] at hkc
        rw [if_pos hs] at HK
        have HI2 : Hid ((r.set i m).take (i + 1) = keptM (l.take (j + 1)) ∧ (r.set i m).drop (j + 1) = l.drop (j + 1)) := (by
          constructor
          · rw [HK, ← HI.out.1, List.take_succ_eq_append_getElem (by simp; omega), List.take_set, List.set_eq_of_length_le (by rw [List.length_take]; omega)]
            simp
          · rw [List.drop_set_of_lt (by omega)]
            have h := congrArg List.tail HI.out.2
            simpa using h)
        clear HI HK hs e1 hm
        go_upto_region 8 with fail
        go_wp2_with fail
        refine hkc.mono ?_
        rintro e w2 ⟨rfl, hB2⟩
        have hm2 := (hB2.block _ hMl).trans hMb
        have m0 : w2.cell? ⟨wr.heap.size, 0, none⟩ = some (.int .u8 m.sg) := (by rw [Lib.cell_of_heap hm2]; rfl)
        have m1 : w2.cell? ⟨wr.heap.size, 1, none⟩ = some (.string ⟨m.tx.toArray⟩) := (by rw [Lib.cell_of_heap hm2]; rfl)
        have hr2 := (hr.low hBm).low hB2
        have hg2 := grown_two (grown_two hg (low_grown hBm (some b))) (low_grown hB2 (some b))
        obtain ⟨x0, y0, t0, t1⟩ := hr2.cells i (by omega)
        have f0 := hr2.frozen (i * 2)
        have f1 := hr2.frozen (i * 2 + 1)
        have hr3 := hr2.store i (by omega) m
        have hg3 := grown_two (grown_two hg2 (grown_set w2 b (i * 2) (.int .u8 m.sg))) (grown_set _ b (i * 2 + 1) (.string ⟨m.tx.toArray⟩))
        clear c0 c1 hkc hMb hMl hm2 hr hg hr2 hg2 hB2 hBm
        go_wp2
        exact ⟨⟨i + 1, j + 1, _, by omega, by omega, by go_num, by go_num, hr3, hg3, HI2⟩, by simp [intOf]; omega⟩
      · have e1 : (m.sg != 32) = true := by simp [hs]
        rw [e1] at hkc
        rw [if_neg hs, List.append_nil] at HK
        have HI2 : Hid (r.take i = keptM (l.take (j + 1)) ∧ r.drop (j + 1) = l.drop (j + 1)) := ⟨HI.out.1.trans HK.symm, by
          have h := congrArg List.tail HI.out.2
          simpa using h⟩
        have hr2 := hr.low hBm
        have hg2 := grown_two hg (low_grown hBm (some b))
        clear HI HK hs e1 hm hMb hMl hr hg hBm
        go_wp2_with fail
        refine hkc.mono ?_
        rintro e w2 ⟨rfl, hB2⟩
        have hr3 := hr2.low hB2
        have hg3 := grown_two hg2 (low_grown hB2 (some b))
        clear c0 c1 hkc hr2 hg2 hB2
        go_wp2
        exact ⟨⟨i, j + 1, r, by omega, by omega, rfl, by go_num, hr3, hg3, HI2⟩, by simp [intOf]; omega⟩
    · have hend : ¬ (j : Int) < (n : Int) := by omega
      have hjn : j = n := by omega
      subst hjn
      have hi1 : i ≤ j := by omega
      have HK : Hid (r.take i = keptM l ∧ i = (keptM l).length) := (by
        have h := HI.out.1
        rw [List.take_of_length_le (show l.length ≤ j by omega)] at h
        refine ⟨h, ?_⟩
        rw [← h, List.length_take]
        have := hr.len
        omega)
      have hs1 := run_mF (some ⟨g, 0, none⟩) j cap i hi1 hcap
      have hs2 := run_mT (some ⟨g, 0, none⟩) j cap i hi1 hcap
      have hsf : mslF (some ⟨g, 0, none⟩) cap i = some ⟨g, i * 2, none⟩ := (by
        unfold mslF
        rw [if_neg (by omega)]
        simp [add_none])
      rw [hsf] at hs1
      obtain ⟨cur, q1, q2, q3⟩ := hr.ex
      obtain ⟨u, hcr, hcg, cur', k1, k2, k3⟩ := run_clear_mk wr 0 g (i * 2) (j - i) (cap - i) cur.toList (by simpa using q1) (by simp; omega)
      have hHu : HMk u (.slice (some ⟨g, 0, none⟩) i cap) (keptM l) := (by
        have hl2 : (keptM l).length = i := HK.out.2.symm
        unfold HMk
        rw [hl2]
        refine .inr ⟨⟨g, 0, none⟩, cap, rfl, by omega, fun t v ht => ?_⟩
        have htl : t < i * 2 := (by
          have := (List.getElem?_eq_some_iff.1 ht).1
          rw [mkcells_length, hl2] at this
          exact this)
        have h1 : cur.toList.take (i * 2) = mkcells (keptM l) := (by
          rw [← HK.out.1, ← mkcells_take, ← q3, List.take_take]
          congr 1
          omega)
        rw [← h1, ← k3, List.getElem?_take_of_lt htl] at ht
        rw [add_none, Nat.zero_add, Lib.cell_of_heap k1]
        simpa using ht)
      have hgu := grown_two hg hcg
      clear HI hsf q1 q2 q3 k1 k2 k3 hr hg hcg
      go_wp2_with (first | (refine wpList_cl (o := ⟨none, _, _, _, _, none⟩) _ rfl (.tmp 38) 57 rfl _ rfl _ _ hcr ?_) | fail)
      go_wp2
      go_ret
      exact ⟨i, rfl, hHu, HK.out.2, hgu⟩
end Go.Proofs.YtgiojkhmkeocfaaGreatDoor

/- The code's kept, all, matched, counted of layer 15, walked. -/
set_option maxRecDepth 20000
namespace Go.Proofs.YtgiojkhmkeocfaaGreatDoor
open Go.RowKit

theorem mk_nilC (n c : Nat) (ao : Addr) (u : World) : (binOp .eql 57 (.slice (some ao) n c) (.slice none 0 0)).run Tryz.prog u = .ok (.bool false) u := by kernel_rfl
theorem mk_nil0 (u : World) : (binOp .eql 57 (.slice none 0 0) (.slice none 0 0)).run Tryz.prog u = .ok (.bool true) u := by kernel_rfl
set_option maxHeartbeats 2000000 in
theorem cclone_f (l : List Mk) (ao : Addr) (c : Nat) (w : World) (hv : HMk w (.slice (some ao) l.length c) l) (hl : l.length ≤ 1099511627776) :
    Calls Tryz.prog 210 #[.slice (some ao) l.length c] w fun e w' => ∃ v', e = .returned v' ∧ w'.ownsRow w.heap.size 103 2 v' l.length (mkcells l) ∧ Below w.heap.size w w' := by
  have hBa : Below w.heap.size w (w.alloc (.cells #[] 103)) := (Below.refl _ w).alloc (Nat.le_refl _) _
  have hva := hv.keep hBa (Nat.le_refl _)
  have hown : (w.alloc (.cells #[] 103)).ownsRow w.heap.size 103 2 (.slice (some ⟨w.heap.size, 0, none⟩) 0 0) 0 [] := ⟨rfl, .inr ⟨w.heap.size, 0, #[], rfl, Nat.le_refl _, heap_alloc_new w _, Nat.le_refl _, by unfold maxLen; omega, rfl, rfl⟩⟩
  have hz : w.heap.size ≤ (w.alloc (.cells #[] 103)).heap.size := by simp
  have hnn := mk_nilC l.length c ao
  clear hv
  go_enter Tryz.func210, Tryz.ntmps210
  go_wp2_with (at_builtin; refine wpList_append_w _ (by kernel_rfl) (.tmp 5) (.tmp 6) 57 103 (.agg #[.int .u8 0, .string ⟨#[]⟩]) 2 24 rfl Tryz.underlying57 infoMk rfl (by decide) (by decide) w.heap.size _ _ _ rfl hown _ l.length (mkcells l) rfl hva (mkcells_length _) (mkcells_one _) (by omega) hz ?_)
  intro v3 u3 hown3 hg3 _
  have hB3 : Below w.heap.size w u3 := hBa.grown hg3 hBa.size (fun j hj => owns_ge hown hj)
  obtain ⟨o3, c3, rfl⟩ := (holds_of hown3).form
  go_wp2
  go_ret
  exact ⟨_, rfl, hown3, hB3⟩
/-- a list of lines, nil if it is empty -/
structure Nl (w : World) (v : Value) (l : List Mk) : Prop where
  hold : HMk w v l
  nil : l = [] → v = .slice none 0 0
theorem Nl.keep {w u : World} {v : Value} {l : List Mk} (h : Nl w v l) (hb : Below w.heap.size w u) : Nl u v l := ⟨h.hold.keep hb (Nat.le_refl _), h.nil⟩
set_option maxHeartbeats 2000000 in
theorem ckept_f (l : List Mk) (v : Value) (w : World) (hv : Nl w v l) (hl : l.length ≤ 1099511627776) (K : List Mk) (HK : Hid (keptM l = K)) :
    Calls Tryz.prog 152 #[v] w fun e w' => ∃ v', e = .returned v' ∧ HMk w' v' K ∧ (l = [] → v' = .slice none 0 0) ∧ Below w.heap.size w w' := by
  by_cases h0 : l = []
  · obtain rfl := hv.nil h0
    subst h0
    have hK : K = [] := HK.out.symm
    subst hK
    have hcl : ∀ u, Calls Tryz.prog 210 #[.slice none 0 0] u fun e w' => e = .returned (.slice none 0 0) ∧ w' = u := (by
      intro u
      have hnn := mk_nil0
      go_enter Tryz.func210, Tryz.ntmps210
      go_wp2
      go_ret
      exact ⟨rfl, rfl⟩)
    have hix : ∀ u, Calls Tryz.prog 106 #[.slice none 0 0, .func (.func 211) #[] #[]] u fun e w' => e = .returned (.int .i64 (-1)) ∧ Below u.heap.size u w' := fun u => cIdx_f 211 #[] [] (fun m => m.sg != 32) (.slice none 0 0) u (.inl ⟨rfl, rfl, rfl⟩) (by simp) (enters_of Tryz.func211 (by kernel_rfl) rfl) (fun m _ u _ => ckept1_f m u) (-1) rfl
    have hdl : ∀ u, Calls Tryz.prog 209 #[.slice none 0 0, .func (.func 211) #[] #[]] u fun e w' => e = .returned (.slice none 0 0) ∧ Below u.heap.size u w' := (by
      intro u
      go_enter Tryz.func209, Tryz.ntmps209
      go_wp2_with fail
      refine (hix u).mono ?_
      rintro e w1 ⟨rfl, hB⟩
      go_wp2
      go_ret
      exact ⟨rfl, hB⟩)
    go_enter Tryz.func152, Tryz.ntmps152
    go_wp2_with fail
    refine (hcl _).mono ?_
    rintro e w1 ⟨rfl, rfl⟩
    go_wp2_with fail
    refine (hdl _).mono ?_
    rintro e w2 ⟨rfl, hB⟩
    go_wp2
    go_ret
    exact ⟨_, rfl, .inl ⟨rfl, rfl, rfl⟩, fun _ => rfl, hB⟩
  · obtain ⟨lo, lc, rfl⟩ := HMk.form hv.hold
    have hlp : 0 < l.length := List.length_pos_iff.2 h0
    obtain ⟨bk, off, rfl, _, _⟩ := HMk.at hv.hold hlp
    have hc := cclone_f l ⟨bk, off, none⟩ lc w hv.hold hl
    have HN : Hid (l ≠ []) := h0
    clear hv h0
    go_enter Tryz.func152, Tryz.ntmps152
    go_wp2_with fail
    refine hc.mono ?_
    rintro e w1 ⟨v', rfl, hown, hB1⟩
    obtain ⟨g, cap, rfl, hg, hr⟩ := mrow_of hown hlp
    have hd := cdelete_f l g l.length cap w1 hr hl
    clear hc hown
    go_wp2_with fail
    refine hd.mono ?_
    rintro e w2 ⟨k, rfl, hH, hk, hgr⟩
    clear hk
    go_wp2
    go_ret
    refine ⟨_, rfl, by rw [← HK.out]; exact hH, fun e => absurd e HN.out, hB1.grown hgr hB1.size (fun j hj => by cases hj; exact hg)⟩
set_option maxHeartbeats 1000000 in
theorem call1_f (k : Int) (X : Nat) (m : Mk) (w : World) (cX : w.cell? ⟨X, 0, none⟩ = some (.int .u8 k)) (hX : X < w.heap.size) : Calls Tryz.prog 213 #[.agg #[.int .u8 m.sg, .string ⟨m.tx.toArray⟩], .pointer (some ⟨X, 0, none⟩)] w fun e w' => e = .returned (.bool (m.sg != k)) ∧ Below w.heap.size w w' := by
  have hBl : Below w.heap.size w (w.alloc (.cells #[.int .u8 m.sg, .string ⟨m.tx.toArray⟩] 103)) := (Below.refl _ w).alloc (Nat.le_refl _) _
  have cX2 : (w.alloc (.cells #[.int .u8 m.sg, .string ⟨m.tx.toArray⟩] 103)).cell? ⟨X, 0, none⟩ = some (.int .u8 k) := (World.cell?_of_block (w := w) (hBl.block X hX)).trans cX
  go_enter Tryz.func213, Tryz.ntmps213
  go_wp2
  go_ret
  exact ⟨rfl, hBl⟩
theorem all_any (k : Int) (l : List Mk) : (l.any fun m => m.sg != k) = !allM k l := by
  unfold allM
  induction l with
  | nil => rfl
  | cons m l ih =>
    rw [List.any_cons, List.all_cons, ih]
    cases h : m.sg == k <;> simp [bne, h]
set_option maxHeartbeats 1000000 in
theorem call_f (k : Int) (l : List Mk) (v : Value) (w : World) (hv : HMk w v l) (hl : l.length ≤ 1099511627776) (r : Bool) (HR : Hid (allM k l = r)) :
    Calls Tryz.prog 153 #[v, .int .u8 k] w fun e w' => e = .returned (.bool r) ∧ Below w.heap.size w w' := by
  have hBl : Below w.heap.size w (w.alloc (.cells #[.int .u8 k] 5)) := (Below.refl _ w).alloc (Nat.le_refl _) _
  have cX : (w.alloc (.cells #[.int .u8 k] 5)).cell? ⟨w.heap.size, 0, none⟩ = some (.int .u8 k) := (by rw [Lib.cell_of_heap (heap_alloc_new w _)]; rfl)
  have hsz : (w.alloc (.cells #[.int .u8 k] 5)).heap.size = w.heap.size + 1 := by simp
  have hv1 : HMk (w.alloc (.cells #[.int .u8 k] 5)) v l := hv.keep hBl (Nat.le_refl _)
  obtain ⟨r2, hr2⟩ : ∃ b, (!r) = b := ⟨_, rfl⟩
  have HC : Hid (Calls Tryz.prog 60 #[v, .func (.func 213) #[] #[.pointer (some ⟨w.heap.size, 0, none⟩)]] (w.alloc (.cells #[.int .u8 k] 5)) fun e w' => e = .returned (.bool r2) ∧ Below w.heap.size w w') := (by
    refine (cContains_f 213 #[.pointer (some ⟨w.heap.size, 0, none⟩)] l (fun m => m.sg != k) v _ hv1 hl (enters_of Tryz.func213 (by kernel_rfl) rfl) ?_ r2 (by show _ = _; rw [all_any, HR.out, hr2])).mono ?_
    · intro m _ u hu
      refine call1_f k w.heap.size m u ((World.cell?_of_block (hu.block w.heap.size (by rw [hsz]; omega))).trans cX) (Nat.lt_of_lt_of_le (by rw [hsz]; omega) hu.size)
    · rintro e w' ⟨h1, h2⟩
      exact ⟨h1, hBl.trans (h2.mono (by rw [hsz]; omega))⟩)
  have HE : Hid ((!r2) = r) := (by show _ = _; rw [← hr2, Bool.not_not])
  obtain ⟨lo, lc, rfl⟩ := HMk.form hv
  clear cX hsz hv1 HR hBl hr2
  have hmf : ∀ (fn : Fn) (first cap : Array Value) (w : World), (Instr.makeFunc fn first cap).run Tryz.prog w = .ok (.func fn first cap) w := fun _ _ _ _ => rfl
  go_enter Tryz.func153, Tryz.ntmps153
  go_wp2_with fail
  refine HC.out.mono ?_
  rintro e w1 ⟨rfl, hB⟩
  go_wp2
  go_ret
  exact ⟨by rw [← HE.out]; rfl, hB⟩
set_option maxHeartbeats 2000000 in
theorem cmatched_f (a b : List Mk) (va vb : Value) (w : World) (ha : HMk w va a) (hb : HMk w vb b) (hla : a.length ≤ 1099511627776) (hlb : b.length ≤ 1099511627776) (r : Bool) (HR : Hid (mtM a b = r)) :
    Calls Tryz.prog 216 #[va, vb] w fun e w' => e = .returned (.bool r) ∧ Below w.heap.size w w' := by
  have HRR := HR.out
  unfold mtM at HRR
  obtain ⟨ao, ac, rfl⟩ := HMk.form ha
  obtain ⟨bo, bc, rfl⟩ := HMk.form hb
  by_cases h1 : b = []
  · rw [if_pos h1] at HRR
    have e1 : ((b.length : Int) == 0) = true := (by rw [h1]; rfl)
    have hc := call_f 45 a _ w ha hla r HRR
    clear HR HRR h1
    go_enter Tryz.func216, Tryz.ntmps216
    go_wp2_with fail
    refine hc.mono ?_
    rintro e w1 ⟨rfl, hB⟩
    go_wp2
    go_ret
    exact ⟨rfl, hB⟩
  · rw [if_neg h1] at HRR
    have e1 : ((b.length : Int) == 0) = false := (by rw [beq_eq_false_iff_ne]; intro e; exact h1 (List.eq_nil_of_length_eq_zero (by omega)))
    by_cases h2 : a = []
    · rw [if_pos h2] at HRR
      have e2 : ((a.length : Int) == 0) = true := (by rw [h2]; rfl)
      have hc := call_f 43 b _ w hb hlb r HRR
      clear HR HRR h1 h2
      go_enter Tryz.func216, Tryz.ntmps216
      go_wp2_with fail
      refine hc.mono ?_
      rintro e w1 ⟨rfl, hB⟩
      go_wp2
      go_ret
      exact ⟨rfl, hB⟩
    · rw [if_neg h2] at HRR
      have e2 : ((a.length : Int) == 0) = false := (by rw [beq_eq_false_iff_ne]; intro e; exact h2 (List.eq_nil_of_length_eq_zero (by omega)))
      cases h3 : allM 33 a with
      | true =>
        rw [h3, Bool.true_and] at HRR
        have hc := call_f 33 a _ w ha hla true h3
        have hd := fun u hu => call_f 33 b _ u (hb.keep hu (Nat.le_refl _)) hlb r HRR
        clear HR HRR h1 h2 h3
        go_enter Tryz.func216, Tryz.ntmps216
        go_wp2_with fail
        refine hc.mono ?_
        rintro e w1 ⟨rfl, hB⟩
        go_wp2_with fail
        refine (hd w1 hB).mono ?_
        rintro e w2 ⟨rfl, hB2⟩
        go_wp2
        go_ret
        exact ⟨rfl, hB.trans (hB2.mono hB.size)⟩
      | false =>
        rw [h3, Bool.false_and] at HRR
        have HE : Hid (false = r) := HRR
        have hc := call_f 33 a _ w ha hla false h3
        clear HR HRR h1 h2 h3
        go_enter Tryz.func216, Tryz.ntmps216
        go_wp2_with fail
        refine hc.mono ?_
        rintro e w1 ⟨rfl, hB⟩
        go_wp2
        go_ret
        exact ⟨by rw [← HE.out]; rfl, hB⟩
end Go.Proofs.YtgiojkhmkeocfaaGreatDoor

/- The append of a text onto an owned row of bytes, with the place of the new row told; what a writer leaves as it was. Of no program. -/
set_option maxRecDepth 20000
namespace Go.Proofs.YtgiojkhmkeocfaaGreatDoor
open Go.RowKit Go.Proofs.YtgiojkhmkeocfaaGreatDoor.Tx Go.Lib

section
variable {P : Program} (w : World)
theorem run_append_strX (base : Nat) (t u ty e : TypeId) (i : TypeInfo) (ht : P.underlying t = some (.slice e)) (hu : P.underlying u = some .string) (hi : P.info? e = some i) (hz : i.zero = some (.int .u8 0))
    (hsize : i.size = 1) (hby : i.bytes = 1)
    (v : Value) (n : Nat) (xs : List Value) (hown : w.ownsRowF base e 1 v n xs) (s : ByteArray)
    (h63 : n + s.size ≤ maxLen) (hbytes : n + s.size ≤ 140737488355328) (hbase : base ≤ w.heap.size) :
    ∃ v' w', (Builtin.append_ #[t, u] ty #[v, .string s]).run P w = .ok v' w' ∧ w'.ownsRowF base e 1 v' (n + s.size) (xs ++ strCells s) ∧ w.grownBy w' v.ownBlock ∧
      (v'.ownBlock = v.ownBlock ∨ ∃ g, v'.ownBlock = some g ∧ w.heap.size ≤ g) := by
  rcases hown.2 with ⟨rfl, rfl⟩ | ⟨g, cap, cur, fz, rfl, hbg, hg, hfz, hnc, hcm, hcs, htake⟩
  · obtain ⟨v', w', r1, r2, r3, r4⟩ := run_append_own_string (P := P) w w.heap.size t u ty e i ht hu hi hz hsize hby (.slice none 0 0) 0 xs ⟨hown.1, .inl ⟨rfl, rfl⟩⟩ s h63 hbytes (Nat.le_refl _)
    have r5 := World.ownsRowF_of r2
    refine ⟨v', w', r1, ⟨r5.1, ?_⟩, r3, ?_⟩
    · rcases r5.2 with h | ⟨g, cap, cur, fz, q1, q2, q3⟩
      · exact .inl h
      · exact .inr ⟨g, cap, cur, fz, q1, by omega, q3⟩
    · rcases r5.2 with ⟨h, _⟩ | ⟨g, cap, cur, fz, q1, q2, q3⟩
      · exact .inl (by rw [h])
      · exact .inr ⟨g, by rw [q1]; rfl, q2⟩
  · have hsmall : n + s.size ≤ 9223372036854775807 := by simp only [maxLen] at h63; omega
    have hxl : xs.length = n := by simpa using hown.1
    have hlen : (xs ++ strCells s).length = (n + s.size) * 1 := by rw [List.length_append, hxl, strCells_length, Nat.mul_one]
    by_cases hroom : n + s.size ≤ cap
    · have hcs' : cur.size = cap := by simpa using hcs
      have hr := run_append_room_stringF (P := P) w t u ty e i ht hu hi hsize g n cap cur fz hg (by simpa using hfz) s hroom (by omega)
      refine ⟨_, _, hr, ⟨hlen, .inr ⟨g, cap, _, fz, rfl, hbg, setRow_heap w g cur _ e _ hg, by omega, hroom, hcm, ?_, ?_⟩⟩, ⟨rfl, rfl, rfl, by simp, fun k _ hk => setRow_other w g k _ (fun e => hk (by simp [Value.ownBlock, e]))⟩, .inl rfl⟩
      · simp only [List.size_toArray, List.length_append, List.length_take, List.length_drop, Array.length_toList, strCells_length]
        omega
      · have ht' : cur.toList.take n = xs := by simpa using htake
        rw [ht', ← hlen]
        exact List.take_left
    · have holds : ∀ j u, xs[j]? = some u → w.cell? ((⟨g, 0, none⟩ : Addr).add j) = some u := hown.cells (g := g) rfl
      have hr := run_append_grow_string (P := P) w t u ty e i (.int .u8 0) ht hu hi hz ⟨g, 0, none⟩ n cap xs (by rw [hsize]; simpa using hxl) holds s (by omega) (by omega) (by rw [hby]; exact growslice_fits (by omega) (by omega))
      have hge := grownCap_ge w (n + s.size) cap e
      have hcm2 : grownCap w (n + s.size) cap e ≤ maxLen := grownCap_le_maxLen w (n + s.size) cap e h63
      refine ⟨_, _, hr, ⟨hlen, .inr ⟨w.heap.size, _, _, (0, 0), rfl, hbase, _root_.Go.heap_alloc_new w.drew _, Nat.zero_le _, hge, hcm2, ?_, ?_⟩⟩, ⟨rfl, rfl, rfl, by simp, fun k hk _ => Below.heap_alloc w.drew _ k hk⟩, .inr ⟨_, rfl, Nat.le_refl _⟩⟩
      · have hz1 : (Value.int IntKind.u8 0).cells.size = 1 := rfl
        simp only [Array.size_append, List.size_toArray, size_zeroCells, hz1, hxl, strCells_length]
        omega
      · simp only [Array.toList_append, List.append_assoc]
        rw [← List.append_assoc, ← hlen]
        exact List.take_left

theorem wpList_append_strX {ops : Array Oper} {rest : List Oper} {o : Oper} {a : Act} {Q : Exit → Act → World → Prop} (hgd : o.guard = none) (sl x : Operand) (t u : TypeId)
    (ho : o.op = .call { callee := .builtin .append, args := #[sl, x], argTypes := #[t, u] })
    (base : Nat) (e : TypeId) (i : TypeInfo) (ht : P.underlying t = some (.slice e)) (hu : P.underlying u = some .string) (hi : P.info? e = some i) (hz : i.zero = some (.int .u8 0))
    (hsize : i.size = 1) (hby : i.bytes = 1)
    (v : Value) (n : Nat) (xs : List Value) (hs : a.eval sl = v) (hown : w.ownsRowF base e 1 v n xs) (s : ByteArray) (hx : a.eval x = .string s)
    (h63 : n + s.size ≤ maxLen) (hbytes : n + s.size ≤ 140737488355328) (hbase : base ≤ w.heap.size)
    (h : ∀ v' w', w'.ownsRowF base e 1 v' (n + s.size) (xs ++ strCells s) → w.grownBy w' v.ownBlock → (v'.ownBlock = v.ownBlock ∨ ∃ g, v'.ownBlock = some g ∧ w.heap.size ≤ g) → wpList P ops Q rest (a.put o.dst v') w') : wpList P ops Q (o :: rest) a w := by
  refine wpList_plain hgd fun K hK => ?_
  obtain ⟨v', w', hr, h2, h3, h4⟩ := run_append_strX (P := P) w base t u o.type e i ht hu hi hz hsize hby v n xs hown s h63 hbytes hbase
  unfold Oper.wp execOp
  simp only [ho, resolve, invoke, builtin, Sem.run_bind, Sem.run_pure, Result.andThen_ok, List.map_toArray, List.map_cons, List.map_nil, hs, hx, hr]
  exact hK _ _ (h v' w' h2 h3 h4)
end
/-- a writer of the builder in block b, whose buffer was v and is v': all else is as it was -/
structure Wr (B b : Nat) (v v' : Value) (w w' : World) : Prop where
  aside : Go.Proofs.YtgiojkhmkeocfaaGreatDoor.Tx.Aside b v w w'
  fresh : Fresh v v' w
  below : Below B w w'
theorem Wr.refl (B b : Nat) (v : Value) (w : World) : Wr B b v v w w := ⟨fun _ _ _ _ => rfl, .inl rfl, Below.refl B w⟩
theorem Wr.trans {B b : Nat} {v v1 v2 : Value} {w w1 w2 : World} (h : Wr B b v v1 w w1) (h' : Wr B b v1 v2 w1 w2) : Wr B b v v2 w w2 := by
  have hsz := h.below.size
  have hn : ∀ k, k < w.heap.size → v.ownBlock ≠ some k → v1.ownBlock ≠ some k := by
    intro k hk hv
    rcases h.fresh with q | ⟨g, q, hg⟩
    · rw [q]; exact hv
    · rw [q]
      intro e
      have := Option.some.inj e
      omega
  refine ⟨fun k hk hb hv => (h'.aside k (by omega) hb (hn k hk hv)).trans (h.aside k hk hb hv), ?_, h.below.trans h'.below⟩
  rcases h'.fresh with q | ⟨g, q, hg⟩
  · rcases h.fresh with q2 | ⟨g, q2, hg⟩
    · exact .inl (q.trans q2)
    · exact .inr ⟨g, q.trans q2, hg⟩
  · exact .inr ⟨g, q, by omega⟩
/-- what does not touch the builder, in the middle -/
theorem Wr.low {B b : Nat} {v : Value} {w w1 : World} (h : Below w.heap.size w w1) (hB : B ≤ w.heap.size) : Wr B b v v w w1 := ⟨fun k hk _ _ => h.block k hk, .inl rfl, h.mono hB⟩
theorem Wr.size {B b : Nat} {v v' : Value} {w w' : World} (h : Wr B b v v' w w') : w.heap.size ≤ w'.heap.size := h.below.size
/-- a block that is neither the builder's nor its buffer's -/
def Off (k : Nat) (b : Nat) (v : Value) : Prop := k ≠ b ∧ v.ownBlock ≠ some k
theorem Wr.block {B b : Nat} {v v' : Value} {w w' : World} (h : Wr B b v v' w w') {k : Nat} {o : Obj} (hk : w.heap[k]? = some o) (ho : Off k b v) : w'.heap[k]? = some o ∧ Off k b v' := by
  have hlt : k < w.heap.size := (Array.getElem?_eq_some_iff.1 hk).1
  refine ⟨(h.aside k hlt ho.1 ho.2).trans hk, ho.1, ?_⟩
  rcases h.fresh with q | ⟨g, q, hg⟩
  · rw [q]; exact ho.2
  · rw [q]
    intro e
    have := Option.some.inj e
    omega
end Go.Proofs.YtgiojkhmkeocfaaGreatDoor

/- A strings.Builder that lies in a block of whatever type, alone or embedded: its copy check, and how bytes and texts are written into it, walked. -/
set_option maxRecDepth 20000
namespace Go.Proofs.YtgiojkhmkeocfaaGreatDoor
open Go.RowKit Go.Proofs.YtgiojkhmkeocfaaGreatDoor.Tx

theorem cwU8 : (Tryz.prog.info? 5).map (fun i => (i.zero, i.size, i.bytes)) = some (some (.int .u8 0), 1, 1) := by kernel_rfl
theorem cwBs : (Tryz.prog.info? 77).map (·.size) = some 2 := by kernel_rfl
/-- a builder lies at the head of a block of type T -/
def LaysB (T : TypeId) : Prop := liesAt Tryz.prog Tryz.prog.depth T (2 / Tryz.prog.cellsOf T) 0 77 1 = true ∧ T ≠ 5
theorem lays_b : LaysB 77 := ⟨by kernel_rfl, by decide⟩
set_option maxHeartbeats 1000000 in
set_option maxRecDepth 100000 in
theorem ccheck_fresh {T : TypeId} (hT : LaysB T) (b : Nat) (w : World) (h0 : w.cell? ⟨b, 0, none⟩ = some (.pointer none)) (hsh : w.shape? b = some (T, 2)) (hfz : w.frozen? ⟨b, 0, none⟩ = false) :
    Calls Tryz.prog 80 #[.pointer (some ⟨b, 0, none⟩)] w fun e w' => e = .returned (.tuple #[]) ∧ w' = w.setCell ⟨b, 0, none⟩ (.pointer (some ⟨b, 0, none⟩)) := by
  obtain ⟨j, hj, hjs⟩ := Option.map_eq_some_iff.1 cwBs
  go_enter Tryz.func80, Tryz.ntmps80
  go_wp2
  rw [Lib.run_to_unsafe w ⟨b, 0, none⟩ Tryz.underlying74 Tryz.underlying143 hj (by rw [hjs]; decide) hsh (Nat.zero_lt_succ 1)]
  simp only [Result.andThen]
  rw [Oper.upon_value]
  go_wp2
  rw [run_callFunc_extern Tryz.func133 (by kernel_rfl) (by kernel_rfl) (by kernel_rfl) (e := Extern.AbiNoEscape.same) (by kernel_rfl)]
  rw [Lib.run_noEscape]
  simp only [Result.andThen]
  rw [Oper.upon_value]
  go_wp2
  rw [Lib.run_from_unsafe w ⟨b, 0, none⟩ Tryz.underlying143 Tryz.underlying74 hj hsh hT.1]
  simp only [Result.andThen]
  rw [Oper.upon_value]
  go_wp2
  go_end0
  exact ⟨rfl, rfl⟩
theorem ccheck_any {T : TypeId} (hT : LaysB T) (B b : Nat) (v : Value) (bs : List Value) (w : World) (h : Bld T 5 B b v bs w) :
    Calls Tryz.prog 80 #[.pointer (some ⟨b, 0, none⟩)] w fun e w' => e = .returned (.tuple #[]) ∧ w'.heap[b]? = some (.cells #[.pointer (some ⟨b, 0, none⟩), v] T (0, 0)) ∧ Bld T 5 B b v bs w' ∧ Hid (∀ k, k ≠ b → w'.heap[k]? = w.heap[k]?) ∧ Below B w w' := by
  have h' := h
  obtain ⟨hB, ⟨p, hp, hbk⟩, hown, hne⟩ := h
  have hlt : b < w.heap.size := (Array.getElem?_eq_some_iff.1 hbk).1
  have c0 : w.cell? ⟨b, 0, none⟩ = some p := by rw [Lib.cell_of_heap hbk]; rfl
  have f0 : w.frozen? ⟨b, 0, none⟩ = false := Lib.frozen_of_heap hbk 0
  rcases hp with rfl | rfl
  · refine (ccheck_fresh hT b w c0 (by simp [World.shape?, hbk]) f0).mono ?_
    rintro e w' ⟨rfl, rfl⟩
    have hb' : (w.setCell ⟨b, 0, none⟩ (.pointer (some ⟨b, 0, none⟩))).heap[b]? = some (.cells #[.pointer (some ⟨b, 0, none⟩), v] T (0, 0)) := by
      simp only [World.setCell, Array.getElem?_modify, hbk]
      simp
    have ho : ∀ k, k ≠ b → (w.setCell ⟨b, 0, none⟩ (.pointer (some ⟨b, 0, none⟩))).heap[k]? = w.heap[k]? := fun k hk => Below.heap_setCell w _ _ k hk
    refine ⟨rfl, hb', ⟨hB, ⟨_, .inr rfl, hb'⟩, ?_, hne⟩, ho, (Below.refl B w).setCell (p := ⟨b, 0, none⟩) hB _⟩
    refine ⟨hown.1, ?_⟩
    rcases hown.2 with h | ⟨g, cap, cur, fz, q1, q2, q3, q4⟩
    · exact .inl h
    · exact .inr ⟨g, cap, cur, fz, q1, q2, (ho g (fun e => hne (by rw [q1, e]; rfl))).trans q3, q4⟩
  · refine (Tryz.copyCheck_used b w c0).mono ?_
    rintro e w' ⟨rfl, rfl⟩
    exact ⟨rfl, hbk, h', fun _ _ => rfl, Below.refl B _⟩
set_option maxHeartbeats 2000000 in
set_option maxRecDepth 100000 in
theorem cByte_f {T : TypeId} (hT : LaysB T) (B b : Nat) (v : Value) (bs : List Value) (c : Int) (w : World) (h : Bld T 5 B b v bs w) (hlen : bs.length + 1 ≤ 140737488355328) (hBw : B ≤ w.heap.size) :
    Calls Tryz.prog 122 #[.pointer (some ⟨b, 0, none⟩), .int .u8 c] w fun e w' => e = .returned .nilIface ∧ ∃ v', Bld T 5 B b v' (bs ++ [.int .u8 c]) w' ∧ Wr B b v v' w w' := by
  obtain ⟨i0, hi, hz0, hz1, hz2⟩ := info_parts cwU8
  go_enter Tryz.func122, Tryz.ntmps122
  go_wp2_with (go_at_call 80; refine (ccheck_any hT B b v bs _ h).mono ?_)
  rintro e w1 ⟨rfl, hbk, ⟨hB, _, hown, hne⟩, ho1, hb1⟩
  have c0 : w1.cell? ⟨b, 0, none⟩ = some (.pointer (some ⟨b, 0, none⟩)) := by rw [Lib.cell_of_heap hbk]; rfl
  have c1 : w1.cell? ⟨b, 1, none⟩ = some v := by rw [Lib.cell_of_heap hbk]; rfl
  have hlt : b < w1.heap.size := (Array.getElem?_eq_some_iff.1 hbk).1
  go_wp2_with (at_builtin; refine wpList_append_ownX _ rfl _ _ 75 rfl B 5 i0 (.int .u8 0) 1 1 Tryz.underlying75 hi hz0 hz1 hz2 rfl (by decide) _ _ _ rfl (hown.alloc _) ⟨w1.heap.size, 0, none⟩ 1 1 [.int .u8 c] rfl rfl ?c1 ?c2 ?c3 ?c4 ?c5 ?_)
  case c1 =>
    intro j u hj
    match j, hj with
    | 0, hj => simp at hj; subst hj; simp [Addr.add]
  case c2 => intro u hu; simp at hu; subst hu; rfl
  case c3 => unfold maxLen; omega
  case c4 => omega
  case c5 => have := hb1.size; simp; omega
  intro v' w2 hown' hgrow hfr
  have hb2 : w2.heap[b]? = some (.cells #[.pointer (some ⟨b, 0, none⟩), v] T (0, 0)) := by
    rw [hgrow.block b (by simp; omega) (fun e => hne e.symm), Lib.alloc_old w1 _ b hlt]
    exact hbk
  have d0 : w2.cell? ⟨b, 0, none⟩ = some (.pointer (some ⟨b, 0, none⟩)) := by rw [Lib.cell_of_heap hb2]; rfl
  have d1 : w2.cell? ⟨b, 1, none⟩ = some v := by rw [Lib.cell_of_heap hb2]; rfl
  have f1 : w2.frozen? ⟨b, 1, none⟩ = false := Lib.frozen_of_heap hb2 1
  obtain ⟨g, cap, rfl⟩ : ∃ g cap, v' = .slice (some ⟨g, 0, none⟩) (bs.length + 1) cap := by
    rcases hown'.2 with ⟨_, h0⟩ | ⟨g, cap, cur, fz, hv, _⟩
    · omega
    · exact ⟨g, cap, hv⟩
  go_wp2
  go_ret
  refine ⟨rfl, _, Bld.put hB (.inr rfl) hb2 (by simpa using hown') hT.2, ?_, ?_, ?_⟩
  · intro k hk hkb hkv
    rw [Below.heap_setCell w2 _ _ k hkb, hgrow.block k (by have := hb1.size; simp; omega) (fun e => hkv e.symm), Lib.alloc_old w1 _ k (by have := hb1.size; omega)]
    exact ho1.out k hkb
  · rcases hfr with h | ⟨g', h, h2⟩
    · exact .inl h
    · exact .inr ⟨g', h, by have := hb1.size; omega⟩
  · exact ((hb1.alloc (by have := hb1.size; omega) _).grown hgrow (by have := hb1.size; simp; omega) (fun k hk => (hown.lt k hk).1)).setCell (p := ⟨b, 1, none⟩) hB _
set_option maxHeartbeats 2000000 in
set_option maxRecDepth 100000 in
theorem cStr_f {T : TypeId} (hT : LaysB T) (B b : Nat) (v : Value) (bs : List Value) (s : List UInt8) (w : World) (h : Bld T 5 B b v bs w) (hlen : bs.length + s.length ≤ 140737488355328) (hBw : B ≤ w.heap.size) :
    Calls Tryz.prog 34 #[.pointer (some ⟨b, 0, none⟩), .string ⟨s.toArray⟩] w fun e w' => e = .returned (.tuple #[.int .i64 s.length, .nilIface]) ∧ ∃ v', Bld T 5 B b v' (bs ++ Lib.byteCells s) w' ∧ Wr B b v v' w w' := by
  obtain ⟨i0, hi, hz0, hz1, hz2⟩ := info_parts cwU8
  go_enter Tryz.func34, Tryz.ntmps34
  go_wp2_with (go_at_call 80; refine (ccheck_any hT B b v bs _ h).mono ?_)
  rintro e w1 ⟨rfl, hbk, ⟨hB, _, hown, hne⟩, ho1, hb1⟩
  have c0 : w1.cell? ⟨b, 0, none⟩ = some (.pointer (some ⟨b, 0, none⟩)) := by rw [Lib.cell_of_heap hbk]; rfl
  have c1 : w1.cell? ⟨b, 1, none⟩ = some v := by rw [Lib.cell_of_heap hbk]; rfl
  have hlt : b < w1.heap.size := (Array.getElem?_eq_some_iff.1 hbk).1
  go_wp2_with (at_builtin; refine wpList_append_strX _ rfl _ _ 75 9 rfl B 5 i0 Tryz.underlying75 Tryz.underlying9 hi hz0 hz1 hz2 _ _ _ rfl hown ⟨s.toArray⟩ rfl ?c3 ?c4 ?c5 ?_)
  case c3 => unfold maxLen; show bs.length + s.length ≤ _; omega
  case c4 => show bs.length + s.length ≤ _; omega
  case c5 => have := hb1.size; omega
  intro v' w2 hown' hgrow hfr
  have hb2 : w2.heap[b]? = some (.cells #[.pointer (some ⟨b, 0, none⟩), v] T (0, 0)) := by
    rw [hgrow.block b hlt (fun e => hne e.symm)]
    exact hbk
  have d0 : w2.cell? ⟨b, 0, none⟩ = some (.pointer (some ⟨b, 0, none⟩)) := by rw [Lib.cell_of_heap hb2]; rfl
  have d1 : w2.cell? ⟨b, 1, none⟩ = some v := by rw [Lib.cell_of_heap hb2]; rfl
  have f1 : w2.frozen? ⟨b, 1, none⟩ = false := Lib.frozen_of_heap hb2 1
  obtain ⟨ao, n', cap, rfl⟩ : ∃ ao n' cap, v' = .slice ao n' cap := by
    rcases hown'.2 with ⟨hv, _⟩ | ⟨g, cap, cur, fz, hv, _⟩
    · exact ⟨_, _, _, hv⟩
    · exact ⟨_, _, _, hv⟩
  have hlen2 : (bs ++ Lib.byteCells s).length = bs.length + s.length := by rw [List.length_append, Lib.byteCells_length]
  go_wp2
  go_ret2
  refine ⟨rfl, _, Bld.put hB (.inr rfl) hb2 (by rw [hlen2]; exact hown') hT.2, ?_, ?_, ?_⟩
  · intro k hk hkb hkv
    rw [Below.heap_setCell w2 _ _ k hkb, hgrow.block k (by have := hb1.size; omega) (fun e => hkv e.symm)]
    exact ho1.out k hkb
  · rcases hfr with h | ⟨g', h, h2⟩
    · exact .inl h
    · exact .inr ⟨g', h, by have := hb1.size; omega⟩
  · exact (hb1.grown hgrow (by have := hb1.size; omega) (fun k hk => (hown.lt k hk).1)).setCell (p := ⟨b, 1, none⟩) hB _
set_option maxHeartbeats 2000000 in
set_option maxRecDepth 100000 in
theorem cString_f {T : TypeId} (B b : Nat) (v : Value) (l : List UInt8) (h0 : l ≠ []) (w : World) (h : Bld T 5 B b v (Lib.byteCells l) w) :
    Calls Tryz.prog 41 #[.pointer (some ⟨b, 0, none⟩)] w fun e w' => e = .returned (.string ⟨l.toArray⟩) ∧ Below B w w' := by
  obtain ⟨hB, ⟨p, hp, hbk⟩, hown, hne⟩ := h
  have hl0 : l.length ≠ 0 := by simpa using h0
  rw [Lib.byteCells_length] at hown
  obtain ⟨g, cap, cur, fz, rfl, hbg, hg, hfz, hnc, hcm, hcs, htake⟩ : ∃ g cap cur fz, v = .slice (some ⟨g, 0, none⟩) l.length cap ∧ B ≤ g ∧ w.heap[g]? = some (.cells cur 5 fz) ∧ fz.2 ≤ l.length * 1 ∧ l.length ≤ cap ∧ cap ≤ maxLen ∧ cur.size = cap * 1 ∧ cur.toList.take (l.length * 1) = Lib.byteCells l := by
    rcases hown.2 with ⟨_, hz⟩ | ⟨g, cap, cur, fz, hv, r⟩
    · exact absurd hz hl0
    · exact ⟨g, cap, cur, fz, hv, r⟩
  have c1 : w.drew.cell? ⟨b, 1, none⟩ = some (.slice (some ⟨g, 0, none⟩) l.length cap) := by
    have : w.drew.heap[b]? = some (.cells #[p, .slice (some ⟨g, 0, none⟩) l.length cap] T (0, 0)) := hbk
    rw [Lib.cell_of_heap this]; rfl
  have hSD : (Builtin.unsafeSliceData_ #[75] 136 #[.slice (some ⟨g, 0, none⟩) l.length cap]).run Tryz.prog w.drew = .ok (.pointer (some ⟨g, 0, none⟩)) w.drew :=
    Lib.run_unsafeSliceData_row _ _ _ _ _ _ (by omega)
  have hUS : (Builtin.unsafeString_ #[136, 3] 9 #[.pointer (some ⟨g, 0, none⟩), .int .i64 l.length]).run Tryz.prog w.drew = .ok (.string ⟨l.toArray⟩) (w.drew.freeze ⟨g, 0, none⟩ l.length) := by
    refine Lib.run_unsafeString_row w.drew 136 3 9 5 Tryz.underlying136 (by kernel_rfl) g cur.size (by have hg' : w.drew.heap[g]? = some (.cells cur 5 fz) := hg; simp [World.shape?, hg']) l h0 (by omega) (by unfold maxLen at hcm; omega) ?_
    intro j x hx
    have := hown.cells (g := g) rfl j (.int .u8 x.toNat) (by simp [Lib.byteCells, hx])
    exact this
  have HF : Hid (Below B w (w.drew.freeze ⟨g, 0, none⟩ l.length)) := Lib.below_freeze (Below.drew (Below.refl B w)) (p := ⟨g, 0, none⟩) hbg _
  clear hfz htake hown hg
  have mixed : Tryz.prog.follows Departure.mixedOrders = true := by kernel_rfl
  go_enter Tryz.func41, Tryz.ntmps41
  go_wp2
  go_region_o
  all_goals (go_wp2; go_ret; exact ⟨rfl, HF.out⟩)
end Go.Proofs.YtgiojkhmkeocfaaGreatDoor

/- The code's page of layer 15, walked: rows, lines, ranges; the signs that are shown. -/
set_option maxRecDepth 20000
namespace Go.Proofs.YtgiojkhmkeocfaaGreatDoor
open Go.RowKit Go.Proofs.YtgiojkhmkeocfaaGreatDoor.Tx

abbrev pgT : TypeId := 121
theorem lays_p : LaysB 121 := ⟨by kernel_rfl, by decide⟩
/-- a page that holds a text -/
def Pg (B b : Nat) (v : Value) (acc : List UInt8) (w : World) : Prop := Bld 121 5 B b v (Lib.byteCells acc) w
theorem Pg.low {B b : Nat} {v : Value} {acc : List UInt8} {w w' : World} (h : Pg B b v acc w) (hb : Below w.heap.size w w') : Pg B b v acc w' := Bld.kept h hb.block
set_option maxHeartbeats 1000000 in
theorem crow_f (B b : Nat) (v : Value) (acc s Z : List UInt8) (w : World) (h : Pg B b v acc w) (hBw : B ≤ w.heap.size) (HZ : Hid (acc ++ s ++ [10] = Z)) (hZ : Z.length ≤ 70368744177664) :
    Calls Tryz.prog 65 #[.pointer (some ⟨b, 0, none⟩), .string ⟨s.toArray⟩] w fun e w' => e = .returned (.tuple #[]) ∧ ∃ v', Pg B b v' Z w' ∧ Wr B b v v' w w' := by
  have hl := congrArg List.length HZ.out
  simp only [List.length_append, List.length_cons, List.length_nil] at hl
  go_enter Tryz.func65, Tryz.ntmps65
  go_wp2_with fail
  refine (cStr_f lays_p B b v _ s _ h (by rw [bcells_len]; omega) hBw).mono ?_
  rintro e w1 ⟨rfl, v1, h1, hw1⟩
  go_wp2_with fail
  refine (cStr_f lays_p B b v1 _ [10] _ h1 (by rw [List.length_append, bcells_len, bcells_len]; simp; omega) (Nat.le_trans hBw hw1.size)).mono ?_
  rintro e w2 ⟨rfl, v2, h2, hw2⟩
  go_wp2
  first
    | go_end0
    | refine bodyPost_ret (results_none rfl _ _ _) rfl ?_
    | refine bodyPost_end (results_none rfl _ _ _) rfl ?_
  refine ⟨rfl, v2, ?_, hw1.trans hw2⟩
  rw [← HZ.out]
  unfold Pg
  rw [Lib.byteCells_append, Lib.byteCells_append]
  exact h2
theorem cell_byte {c : Int} (h0 : 0 ≤ c) (h1 : c < 256) : Lib.byteCells [UInt8.ofNat c.toNat] = [.int .u8 c] := by
  have : ((UInt8.ofNat c.toNat).toNat : Int) = c := by
    rw [UInt8.toNat_ofNat']
    omega
  simp only [Lib.byteCells, List.map_cons, List.map_nil, this]
set_option maxHeartbeats 2000000 in
theorem cline_f (B b : Nat) (v : Value) (c : Int) (h0 : 0 ≤ c) (h1 : c < 256) (acc s Z : List UInt8) (w : World) (h : Pg B b v acc w) (hBw : B ≤ w.heap.size) (HZ : Hid (acc ++ (lnL [UInt8.ofNat c.toNat, 32] s).flatten = Z)) (hZ : Z.length ≤ 70368744177664) (hs : s.length ≤ 1099511627776) :
    Calls Tryz.prog 166 #[.pointer (some ⟨b, 0, none⟩), .int .u8 c, .string ⟨s.toArray⟩] w fun e w' => e = .returned (.tuple #[]) ∧ ∃ v', Pg B b v' Z w' ∧ Wr B b v v' w w' := by
  obtain ⟨T, hT⟩ : ∃ T, plT s = T := ⟨_, rfl⟩
  have HT : Hid (plT s = T) := hT
  have HE : Hid (acc ++ ([UInt8.ofNat c.toNat, 32] ++ T) = Z) := (by
    show _ = _
    rw [← HZ.out, pl_lines, hT])
  have hl := congrArg List.length HE.out
  simp only [List.length_append, List.length_cons, List.length_nil] at hl
  have hA : Hid (Lib.byteCells acc ++ [.int .u8 c] ++ [.int .u8 32] ++ Lib.byteCells T = Lib.byteCells Z) := (by
    show _ = _
    rw [← HE.out, Lib.byteCells_append, Lib.byteCells_append]
    have : Lib.byteCells [UInt8.ofNat c.toNat, 32] = [.int .u8 c] ++ [.int .u8 32] := (by
      have h := cell_byte h0 h1
      simp only [Lib.byteCells, List.map_cons, List.map_nil] at h ⊢
      rw [List.cons_eq_cons.1 h |>.1]
      rfl)
    rw [this]
    simp only [List.append_assoc])
  have hbl := bcells_len acc
  have hsl := bcells_len T
  clear HZ HE hT
  go_enter Tryz.func166, Tryz.ntmps166
  go_wp2_with fail
  refine (cByte_f lays_p B b v _ c _ h (by omega) hBw).mono ?_
  rintro e w1 ⟨rfl, v1, q1, hw1⟩
  go_wp2_with fail
  refine (cByte_f lays_p B b v1 _ 32 _ q1 (by rw [List.length_append]; simp; omega) (Nat.le_trans hBw hw1.size)).mono ?_
  rintro e w2 ⟨rfl, v2, q2, hw2⟩
  have hw12 := hw1.trans hw2
  have q2d : Bld 121 5 B b v2 _ w2.drew := Bld.kept q2 ((Below.refl _ w2).drew).block
  have hwd : Wr B b v v2 w w2.drew := hw12.trans (Wr.low ((Below.refl _ w2).drew) (by have := hw12.size; omega))
  have hszd : B ≤ w2.drew.heap.size := Nat.le_trans hBw hwd.size
  clear q1 q2 hw1 hw2 hw12 h
  go_upto_region 2 with fail
  refine wp_region_noPanic ?_
  refine wp_region_held_drew (S := fun _ => True) (by kernel_rfl) trivial (fun hHeld => ?_)
  generalize w2.drew = wd at q2d hwd hszd ⊢
  refine go_take 0 15 _ (.pointer (some ⟨b, 0, none⟩)) rfl (by kernel_rfl) (by kernel_rfl) (by kernel_rfl) (by kernel_rfl) (fun _ _ _ h => h) (Or.inl ⟨by kernel_rfl, fun u hu => by kernel_rfl⟩) hHeld ?_
  simp only [Act.put, List.setIfInBounds_toArray, List.set_cons_zero, List.set_cons_succ]
  refine go_take 1 16 _ (.pointer (some ⟨b, 0, none⟩)) rfl (by kernel_rfl) (by kernel_rfl) (by kernel_rfl) (by kernel_rfl) (fun _ _ _ h => h) (Or.inl ⟨by kernel_rfl, fun u hu => by kernel_rfl⟩) hHeld ?_
  simp only [Act.put, List.setIfInBounds_toArray, List.set_cons_zero, List.set_cons_succ]
  refine go_take 2 17 _ (.pointer (some ⟨b, 0, none⟩)) rfl (by kernel_rfl) (by kernel_rfl) (by kernel_rfl) (by kernel_rfl) (fun _ _ _ h => h) (Or.inl ⟨by kernel_rfl, fun u hu => by kernel_rfl⟩) hHeld ?_
  simp only [Act.put, List.setIfInBounds_toArray, List.set_cons_zero, List.set_cons_succ]
  refine go_take 3 18 _ (.string ⟨s.toArray⟩) rfl (by kernel_rfl) (by kernel_rfl) (by kernel_rfl) (by kernel_rfl) (fun _ _ _ h => h) (Or.inl ⟨by kernel_rfl, fun u hu => by kernel_rfl⟩) hHeld ?_
  simp only [Act.put, List.setIfInBounds_toArray, List.set_cons_zero, List.set_cons_succ]
  refine go_callE 4 19 _ rfl (by kernel_rfl) (by kernel_rfl) (by kernel_rfl) 82 (.func 82) #[.tmp 18] #[9] (by kernel_rfl) #[] (by kernel_rfl) #[.string ⟨s.toArray⟩] (by kernel_rfl) (enters_of Tryz.func82 (by kernel_rfl) rfl) (fun v3 w3 => v3 = .string ⟨T.toArray⟩ ∧ w3 = wd) ?_ ?_
  · refine (pline_f s wd hs T HT).mono ?_
    rintro e w3 ⟨rfl, rfl⟩
    exact ⟨_, rfl, trivial, rfl, rfl⟩
  rintro _ w3 _ ⟨rfl, rfl⟩
  simp only [Act.put, List.setIfInBounds_toArray, List.set_cons_zero, List.set_cons_succ]
  refine go_callE 5 20 _ rfl (by kernel_rfl) (by kernel_rfl) (by kernel_rfl) 34 (.func 34) #[.tmp 17, .tmp 19] #[77, 9] (by kernel_rfl) #[] (by kernel_rfl) #[.pointer (some ⟨b, 0, none⟩), .string ⟨T.toArray⟩] (by kernel_rfl) (enters_of Tryz.func34 (by kernel_rfl) rfl) (fun _ w4 => ∃ v', Pg B b v' Z w4 ∧ Wr B b v v' w w4) ?_ ?_
  · refine (cStr_f lays_p B b v2 _ T _ q2d (by rw [List.length_append, List.length_append]; simp; omega) hszd).mono ?_
    rintro e w4 ⟨rfl, v4, q4, hw4⟩
    exact ⟨_, rfl, trivial, v4, by unfold Pg; rw [← hA.out]; exact q4, hwd.trans hw4⟩
  rintro _ w4 _ ⟨v4, q4, hw4⟩
  simp only [Act.put, List.setIfInBounds_toArray, List.set_cons_zero, List.set_cons_succ]
  refine wpAnyH_done (by kernel_rfl) ?_ _
  refine NoPanic.normal ?_
  go_wp2
  first
    | go_end0
    | refine bodyPost_ret (results_none rfl _ _ _) rfl ?_
    | refine bodyPost_end (results_none rfl _ _ _) rfl ?_
  exact ⟨rfl, v4, q4, hw4⟩
set_option maxHeartbeats 1000000 in
theorem crange_f (A N : Int) (h0 : 0 ≤ A) (h1 : A ≤ 4611686018427387904) (h2 : 0 ≤ N) (h3 : N ≤ 4611686018427387900) (w : World) (HT : Hid (Tab10 w)) (T : List UInt8) (HR : Hid (spanT A N = T)) :
    Calls Tryz.prog 112 #[.int .i64 A, .int .i64 N] w fun e w' => e = .returned (.string ⟨T.toArray⟩) ∧ Below w.heap.size w w' := by
  have l1 := itoa_short A (by omega) (by omega)
  have l2 := itoa_short (A + N - 1) (by omega) (by omega)
  by_cases hN : N ≤ 1
  · have HE1 : Hid (Lib.itoa A = T) := (by have h := HR.out; unfold spanT at h; rw [if_pos hN] at h; exact h)
    clear HR
    go_enter Tryz.func112, Tryz.ntmps112
    go_wp2_with fail
    refine (nText_f A (by omega) (by omega) _ HT).mono ?_
    rintro e w1 ⟨rfl, hb1⟩
    go_wp2
    go_ret
    exact ⟨by rw [← HE1.out]; rfl, hb1⟩
  · have HE : Hid (Lib.itoa A ++ 44 :: Lib.itoa (A + N - 1) = T) := (by have h := HR.out; unfold spanT at h; rw [if_neg hN] at h; exact h)
    clear HR
    have q1 := add_fits (x := Lib.itoa A) (y := [44]) (by unfold Fits; simp only [List.length_cons, List.length_nil]; omega) Tryz.prog
    have q2 := add_fits (x := Lib.itoa A ++ [44]) (y := Lib.itoa (A + N - 1)) (by unfold Fits; simp only [List.length_append, List.length_cons, List.length_nil]; omega) Tryz.prog
    go_enter Tryz.func112, Tryz.ntmps112
    go_wp2_with fail
    refine (nText_f A (by omega) (by omega) _ HT).mono ?_
    rintro e w1 ⟨rfl, hb1⟩
    have HT1 : Hid (Tab10 w1) := HT.out.on hb1
    go_wp2_with fail
    refine (nText_f (A + N - 1) (by omega) (by omega) _ HT1).mono ?_
    rintro e w2 ⟨rfl, hb2⟩
    go_wp2
    go_ret
    exact ⟨by rw [← HE.out]; rfl, hb1.trans (hb2.mono hb1.size)⟩
end Go.Proofs.YtgiojkhmkeocfaaGreatDoor
