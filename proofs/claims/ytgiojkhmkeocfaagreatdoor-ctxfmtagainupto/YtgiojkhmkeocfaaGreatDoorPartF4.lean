/-
  Texts that belong together, joined: CwF, CpF, CpG, CpH.
-/
import Derived.Test.YtgiojkhmkeocfaaGreatDoorPartF3
import Derived.Laws.StructEq
import Derived.BigQuiet
import Derived.Test.YtgiojkhmkeocfaaGreatDoorPartA8

/- The code's shownSigns of layer 15, walked. -/
set_option maxRecDepth 20000
namespace Go.Proofs.YtgiojkhmkeocfaaGreatDoor
open Go.RowKit

def ucells (l : List Int) : List Value := l.map fun n => .int .u8 n
theorem ucells_length (l : List Int) : (ucells l).length = l.length := by simp [ucells]
theorem ucells_append (a b : List Int) : ucells (a ++ b) = ucells a ++ ucells b := by simp [ucells]
theorem ucells_one (l : List Int) : ∀ u ∈ ucells l, u.oneCell' = true := by
  intro u hu
  simp only [ucells, List.mem_map] at hu
  obtain ⟨n, _, rfl⟩ := hu
  rfl
theorem infoU : (Tryz.prog.info? 5).map (fun i => (i.zero, i.size, i.bytes)) = some (some (.int .u8 0), 1, 1) := by kernel_rfl
theorem u_row (w : World) (c : Int) : Holds (w.alloc (.cells #[.int .u8 c] 5)) (.slice (some ⟨w.heap.size, 0, none⟩) 1 1) 1 (ucells [c]) := new_holds w #[.int .u8 c] 5 1 1 (by decide)
def lenW : Value → Nat
  | .slice _ n _ => n
  | _ => 0
theorem mix_len (c : List Mk) : (mixM c).length = c.length := by simp [mixM]
theorem mix_at (c : List Mk) (mx : Bool) (HM : (hasM 45 c && hasM 43 c) = mx) (k : Nat) (hk : k < c.length) : (mixM c).drop k = (if mx = true then 33 else c[k].sg) :: (mixM c).drop (k + 1) := by
  have hl : k < (mixM c).length := by rw [mix_len]; exact hk
  rw [List.drop_eq_getElem_cons hl]
  congr 1
  simp only [mixM, List.getElem_map, HM]
set_option maxHeartbeats 8000000 in
set_option maxRecDepth 10000 in
theorem cshown_f (l : List Mk) (v : Value) (w : World) (hv : HMk w v l) (hl : l.length ≤ 1099511627776) (R : List Int) (HR : Hid (shwL false false l = R)) :
    Calls Tryz.prog 111 #[v] w fun e w' => ∃ v', e = .returned v' ∧ w'.ownsRow w.heap.size 5 1 v' R.length (ucells R) ∧ Below w.heap.size w w' := by
  obtain ⟨lo, lc, rfl⟩ := HMk.form hv
  have hnc := mhold_cap hv
  have HR0 : Hid (([] : List Int) ++ shwL false false (l.drop 0) = R) := (by show _ = _; simp only [List.nil_append, List.drop_zero]; exact HR.out)
  have hown0 : w.ownsRow w.heap.size 5 1 (.slice none 0 0) 0 (ucells []) := hnil_row _ _ _ _
  clear HR
  go_enter Tryz.func111, Tryz.ntmps111
  go_wp2
  go_loopw [3] (fun sv wr => ∃ (acc : List Int) (N : Nat), N ≤ l.length ∧ (∃ o c, sv = .slice o N c) ∧ wr.ownsRow w.heap.size 5 1 sv N (ucells acc) ∧ Below w.heap.size w wr ∧ Hid (acc.length = N) ∧ Hid (acc ++ shwL false false (l.drop N) = R)) (fun sv _ => l.length - lenW sv)
  case atStart => exact ⟨[], 0, Nat.zero_le _, ⟨none, 0, rfl⟩, hown0, Below.refl _ _, rfl, HR0⟩
  case round =>
  obtain ⟨acc, N, hN, ⟨o, c, rfl⟩, hown, hB, HLn, HI⟩ := hrel
  clear HR0 hown0
  by_cases hlt : N < l.length
  · have hsub := mk_from hv N hN
    have hs := run_mF lo l.length lc N hN hnc
    have HST := HI.out
    rw [shw_step] at HST
    have hll : (l.drop N).length = l.length - N := List.length_drop
    obtain ⟨D, hD⟩ : ∃ D, l.drop N = D := ⟨_, rfl⟩
    have HDr : Hid (l.drop N = D) := hD
    rw [hD] at hll hsub HST
    rw [← hll] at hsub hs
    clear hD HI
    generalize mslF lo lc N = ao2 at hs hsub
    generalize lc - N = c2 at hs hsub
    obtain ⟨n, hn⟩ : ∃ n, (chgM D).length = n := ⟨_, rfl⟩
    have hnD : n ≤ D.length := (by rw [← hn]; exact chg_le D)
    have hp := cpiece_f D ao2 c2 wr (hsub.keep hB (Nat.le_refl _)) (by omega) n hn
    have hto := mk_to hsub n hnD
    have hct : D.take n = chgM D := (by rw [← hn]; exact chg_take D)
    rw [hct] at hto
    obtain ⟨T, hT⟩ : ∃ T, tlM (rstM D) = T := ⟨_, rfl⟩
    rw [hT] at HST
    have HTl : Hid ((n = D.length ∧ T = []) ∨ (n < D.length ∧ T = 32 :: shwL false false (l.drop (N + n + 1)))) := (by
      have h1 := congrArg List.length (chg_rstM D)
      rw [List.length_append, hn] at h1
      cases hr : rstM D with
      | nil =>
        rw [hr] at hT h1
        exact .inl ⟨by simpa using h1, hT.symm⟩
      | cons x t =>
        rw [hr] at hT h1
        refine .inr ⟨by simp at h1; omega, ?_⟩
        rw [← hT]
        have h2 : l.drop (N + n + 1) = t := (by
          rw [← List.drop_drop, ← List.drop_drop, HDr.out]
          have h3 := chg_rstM D
          rw [hr] at h3
          have h4 : D.drop n = x :: t := (by rw [← h3, ← hn, List.drop_left])
          rw [h4]
          rfl)
        rw [h2]
        rfl)
    have HS : Hid (acc ++ (mixM (chgM D) ++ T) = R) := HST
    have hhas := fun k u hu r HR => chas_f k (chgM D) (.slice ao2 n c2) u ((hto.keep hB (Nat.le_refl _)).keep hu (Nat.le_refl _)) (by rw [hn]; omega) r HR
    obtain ⟨mx, hmx⟩ : ∃ b, (hasM 45 (chgM D) && hasM 43 (chgM D)) = b := ⟨_, rfl⟩
    have HMX : Hid ((hasM 45 (chgM D) && hasM 43 (chgM D)) = mx) := hmx
    have h45 := fun u hu => hhas 45 u hu _ rfl
    have h43 := fun u hu => hhas 43 u hu _ rfl
    have HCn : Hid ((chgM D).length = n) := hn
    have HDl : Hid (D.length = l.length - N) := hll
    have hn2 : n ≤ 1099511627776 := by omega
    clear HST hT hsub hct hhas hn HDr hll hmx
    generalize chgM D = C at hto HS h45 h43 HMX HCn
    go_wp2_with fail
    refine hp.mono ?_
    rintro e w1 ⟨rfl, hB1⟩
    go_upto_region 4 with fail
    go_cut [5] from 9 to 46 (fun mv wz => mv = .bool mx ∧ Below wr.heap.size wr wz)
    case first =>
      cases h1 : hasM 45 C with
      | true =>
        rw [h1] at h45
        go_wp2_with fail
        refine (h45 w1 hB1).mono ?_
        rintro e w2 ⟨rfl, hB2⟩
        have hB12 := hB1.trans (hB2.mono hB1.size)
        have HE : Hid (hasM 43 C = mx) := (by have h := HMX.out; rw [h1, Bool.true_and] at h; exact h)
        go_wp2_with fail
        refine (h43 w2 hB12).mono ?_
        rintro e w3 ⟨rfl, hB3⟩
        go_wp2
        go_meet
        case rel => exact ⟨by rw [HE.out], hB12.trans (hB3.mono hB12.size)⟩
      | false =>
        rw [h1] at h45
        have HE : Hid (false = mx) := (by have h := HMX.out; rw [h1, Bool.false_and] at h; exact h)
        go_wp2_with fail
        refine (h45 w1 hB1).mono ?_
        rintro e w2 ⟨rfl, hB2⟩
        go_wp2
        go_meet
        case rel => exact ⟨by rw [HE.out], hB1.trans (hB2.mono hB1.size)⟩
    case rest =>
    obtain ⟨rfl, hBc⟩ := hcut
    clear hp h45 h43 hs hB1
    have hown2 : wc.ownsRow w.heap.size 5 1 (.slice o N c) N (ucells acc) := owns_keep hown hBc
    have hB2 := hB.trans (hBc.mono hB.size)
    clear hown hB hBc
    generalize wc = W2 at hown2 hB2 ⊢
    have HS0 : Hid (acc ++ ((mixM C).drop 0 ++ T) = R) := (by show _ = _; rw [List.drop_zero]; exact HS.out)
    have HL0 : Hid (acc.length = N ∧ N = N + 0) := ⟨HLn.out, rfl⟩
    clear HS HLn
    go_wp2
    go_loopw [3, 27] (fun sv i wr => ∃ (k : Nat) (ac : List Int) (N2 : Nat), k ≤ n ∧ i = .int .i64 k ∧ N2 ≤ l.length ∧ (∃ o c, sv = .slice o N2 c) ∧ wr.ownsRow w.heap.size 5 1 sv N2 (ucells ac) ∧ Below w.heap.size w wr ∧ Hid (ac.length = N2 ∧ N2 = N + k) ∧ Hid (ac ++ ((mixM C).drop k ++ T) = R)) (fun _ i _ => n - (intOf i).toNat)
    case atStart => exact ⟨0, acc, N, Nat.zero_le _, by go_num, hN, ⟨o, c, rfl⟩, hown2, hB2, HL0, HS0⟩
    case round =>
    clear HS0 HL0 hown2
    obtain ⟨k, ac, N2, hk, rfl, hN2, ⟨o2, c2', rfl⟩, hown3, hB3, HL3, HI3⟩ := hrel
    have hsz3 := hB3.size
    by_cases hkn : k < n
    · obtain ⟨bk, off, rfl, hbk, _⟩ := HMk.at hto (by have := HCn.out; omega)
      have hkC : k < C.length := (by have := HCn.out; omega)
      obtain ⟨m, hm⟩ : ∃ m, C[k] = m := ⟨_, rfl⟩
      obtain ⟨c0, c1⟩ := Low.mk hB3 hto k hkC hm
      have i1 : (0 : Int) ≤ (k : Int) := by omega
      have i2 : (k : Int) < (n : Int) := by omega
      obtain ⟨S, hS⟩ : ∃ S : Int, (if mx = true then 33 else m.sg) = S := ⟨_, rfl⟩
      have HI4 : Hid ((ac ++ [S]) ++ ((mixM C).drop (k + 1) ++ T) = R) := (by
        show _ = _
        have h := HI3.out
        rw [mix_at C _ HMX.out k hkC, hm, hS] at h
        rw [← h]
        simp)
      have HL4 : Hid ((ac ++ [S]).length = N2 + 1 ∧ N2 + 1 = N + (k + 1) ∧ N2 + 1 ≤ l.length ∧ k + 1 ≤ n) := ⟨by rw [List.length_append, HL3.out.1]; rfl, by have := HL3.out.2; omega, by have := HL3.out.2; have := HDl.out; omega, by omega⟩
      have hownM := hown3.alloc (.cells #[.int .u8 m.sg, .string ⟨m.tx.toArray⟩] 103)
      have hBM := hB3.alloc hB3.size (.cells #[.int .u8 m.sg, .string ⟨m.tx.toArray⟩] 103)
      have HS2 : Hid ((if mx = true then 33 else m.sg) = S) := hS
      clear HI3 HMX hto hS hown3 hB3
      go_upto_region 8 with fail
      go_cut [8] from 28 to 38 (fun sv wz => sv = .int .u8 m.sg ∧ wz = wr.alloc (.cells #[.int .u8 m.sg, .string ⟨m.tx.toArray⟩] 103))
      case first =>
        go_wp2
        go_meet
        case rel => exact ⟨rfl, rfl⟩
      case rest =>
      obtain ⟨rfl, rfl⟩ := hcut
      go_upto_if 33 with fail
      go_cut [8] from 28 to 38 (fun sv wz => sv = .int .u8 S ∧ wz = wr.alloc (.cells #[.int .u8 m.sg, .string ⟨m.tx.toArray⟩] 103))
      case first =>
        cases mx with
        | true =>
          have HE : Hid (33 = S) := (by have h := HS2.out; rw [if_pos rfl] at h; exact h)
          go_wp2
          go_meet
          case rel => exact ⟨by rw [HE.out], rfl⟩
        | false =>
          have HE : Hid (m.sg = S) := (by have h := HS2.out; rw [if_neg (by decide)] at h; exact h)
          go_wp2
          go_meet
          case rel => exact ⟨by rw [HE.out], rfl⟩
      case rest =>
      obtain ⟨rfl, rfl⟩ := hcut
      clear c0 c1 HS2
      generalize wr.alloc (.cells #[.int .u8 m.sg, .string ⟨m.tx.toArray⟩] 103) = Wm at hownM hBM ⊢
      have hszM : w.heap.size ≤ Wm.heap.size := hBM.size
      have hrow := u_row Wm S
      have hownA := hownM.alloc (.cells #[.int .u8 S] 5)
      have hszA : Wm.heap.size ≤ (Wm.alloc (.cells #[.int .u8 S] 5)).heap.size := by simp
      go_wp2_with (at_builtin; refine wpList_append_w _ (by kernel_rfl) (.tmp 34) (.tmp 36) 75 5 (.int .u8 0) 1 1 rfl Tryz.underlying75 infoU rfl (by decide) (by decide) w.heap.size _ _ _ rfl hownA _ 1 (ucells [S]) rfl hrow (ucells_length _) (ucells_one _) (by omega) (by omega) ?_)
      intro v3 u3 hown4 hg4 _
      rw [← ucells_append] at hown4
      have hB4 : Below w.heap.size w u3 := ((hBM.alloc hBM.size _).grown hg4 (hBM.alloc hBM.size _).size (fun j hj => owns_ge hownA hj))
      obtain ⟨o4, c4, rfl⟩ := (holds_of hown4).form
      clear hrow hownA hg4 hszA hownM hBM
      go_wp2
      exact ⟨⟨k + 1, _, N2 + 1, HL4.out.2.2.2, by go_num, HL4.out.2.2.1, ⟨o4, c4, rfl⟩, hown4, hB4, ⟨HL4.out.1, HL4.out.2.1⟩, HI4⟩, by have := HL4.out.2.2.2; simp [intOf]; omega⟩
    · have hend : decide ((k : Int) < (n : Int)) = false := decide_eq_false (by omega)
      have hkk : k = n := by omega
      subst hkk
      have HI4 : Hid (ac ++ T = R) := (by
        have h := HI3.out
        rw [List.drop_of_length_le (by rw [mix_len, HCn.out]; omega), List.nil_append] at h
        exact h)
      have HNk : Hid (N2 = N + k) := HL3.out.2
      have HAl : Hid (ac.length = N2) := HL3.out.1
      clear HI3 HL3 HMX hto
      by_cases hfull : k < D.length
      · have HT : Hid (T = 32 :: shwL false false (l.drop (N2 + 1))) := (by
          rcases HTl.out with h | h
          · omega
          · show _ = _
            rw [HNk.out]
            exact h.2)
        have j1 : (N2 : Int) < (l.length : Int) := (by have := HNk.out; have := HDl.out; omega)
        have HI5 : Hid ((ac ++ [32]) ++ shwL false false (l.drop (N2 + 1)) = R) := (by
          show _ = _
          rw [← HI4.out, HT.out]
          simp)
        have HL5 : Hid ((ac ++ [(32 : Int)]).length = N2 + 1) := (by show _ = _; rw [List.length_append, HAl.out]; rfl)
        have hdec : l.length - (N2 + 1) < l.length - N := (by have := HNk.out; omega)
        have hownM := hown3
        have hBM := hB3
        clear HI4 HT HTl
        have hszA : (wr).heap.size ≤ ((wr).alloc (.cells #[.int .u8 (32)] 5)).heap.size := by simp
        have hrow := u_row (wr) (32)
        have hownA := hownM.alloc (.cells #[.int .u8 (32)] 5)
        go_wp2_with (at_builtin; refine wpList_append_w _ (by kernel_rfl) (.tmp 44) (.tmp 45) 75 5 (.int .u8 0) 1 1 rfl Tryz.underlying75 infoU rfl (by decide) (by decide) w.heap.size _ _ _ rfl hownA _ 1 (ucells [32]) rfl hrow (ucells_length _) (ucells_one _) (by omega) (by omega) ?_)
        intro v3 u3 hown4 hg4 _
        rw [← ucells_append] at hown4
        have hB4 : Below w.heap.size w u3 := ((hBM.alloc hBM.size _).grown hg4 (hBM.alloc hBM.size _).size (fun j hj => owns_ge hownA hj))
        obtain ⟨o4, c4, rfl⟩ := (holds_of hown4).form
        clear hrow hownA hg4 hszA
        go_wp2
        exact ⟨⟨_, N2 + 1, by omega, ⟨o4, c4, rfl⟩, hown4, hB4, HL5, HI5⟩, hdec⟩
      · have HT : Hid (T = []) := (by
          rcases HTl.out with h | h
          · exact h.2
          · omega)
        have j1 : ¬ (N2 : Int) < (l.length : Int) := (by have := HNk.out; have := HDl.out; omega)
        have HI5 : Hid (ac ++ shwL false false (l.drop N2) = R) := (by
          show _ = _
          rw [← HI4.out, HT.out, List.drop_of_length_le (by omega)]
          rfl)
        have hdec : l.length - N2 < l.length - N := (by have := HNk.out; have := HDl.out; omega)
        clear HI4 HT HTl
        go_wp2
        exact ⟨⟨ac, N2, hN2, ⟨o2, c2', rfl⟩, hown3, hB3, HAl, HI5⟩, hdec⟩
  · have hend : ¬ (N : Int) < (l.length : Int) := by omega
    have HE : Hid (acc = R ∧ R.length = N) := (by
      have h := HI.out
      rw [List.drop_of_length_le (by omega)] at h
      have h2 : acc = R := (by rw [← h]; simp [shwL])
      exact ⟨h2, by rw [← h2]; exact HLn.out⟩)
    clear HI HLn
    go_wp2
    go_ret
    obtain ⟨h1, h2⟩ := HE.out
    subst h1
    exact ⟨_, rfl, by rw [h2]; exact hown, hB⟩
end Go.Proofs.YtgiojkhmkeocfaaGreatDoor

/- The code's laid of layer 15, walked: old and new lines are laid into one list by a closure. -/
set_option maxRecDepth 20000
namespace Go.Proofs.YtgiojkhmkeocfaaGreatDoor
open Go.RowKit

/-- a list in a box that grows -/
structure Ly (W : World) (X : Nat) (lv : Value) (acc : List Mk) (u : World) : Prop where
  low : Below W.heap.size W u
  box : u.heap[X]? = some (.cells #[lv] 57)
  own : u.ownsRow W.heap.size 103 2 lv acc.length (mkcells acc)
  ge : W.heap.size ≤ X
section
variable {W u u' : World} {X : Nat} {lv : Value} {acc : List Mk}
theorem Ly.keep (h : Ly W X lv acc u) (hb : Below u.heap.size u u') : Ly W X lv acc u' := ⟨h.low.trans (hb.mono h.low.size), (hb.block X (Array.getElem?_eq_some_iff.1 h.box).1).trans h.box, owns_keep h.own hb, h.ge⟩
theorem Ly.cell (h : Ly W X lv acc u) : u.cell? ⟨X, 0, none⟩ = some lv := by rw [Lib.cell_of_heap h.box]; rfl
theorem Ly.frozen (h : Ly W X lv acc u) : u.frozen? ⟨X, 0, none⟩ = false := Lib.frozen_of_heap h.box 0
theorem own_box2 {B : Nat} {e t : TypeId} {s : Nat} {v : Value} {n k : Nat} {xs : List Value} {cs : Array Value} {fr : Nat × Nat} (h : u.ownsRow B e s v n xs) (hb : u.heap[k]? = some (.cells cs t fr)) (he : e ≠ t) : v.ownBlock ≠ some k := by
  intro hg
  rcases h.2 with ⟨rfl, _⟩ | ⟨g, cap, cur, rfl, _, hg2, _⟩
  · cases hg
  · simp [Value.ownBlock] at hg
    subst hg
    rw [hb] at hg2
    simp at hg2
    exact he hg2.2.1.symm
/-- one line more -/
theorem Ly.more (h : Ly W X lv acc u) {m : Mk} {lv' : Value} {n : Nat} (hg : u.grownBy u' lv.ownBlock) (ho : u'.ownsRow W.heap.size 103 2 lv' n (mkcells (acc ++ [m]))) (hn : n = (acc ++ [m]).length) : Ly W X lv' (acc ++ [m]) (u'.setCell ⟨X, 0, none⟩ lv') ∧ u'.cell? ⟨X, 0, none⟩ = some lv ∧ u'.frozen? ⟨X, 0, none⟩ = false := by
  subst hn
  have hb : u'.heap[X]? = some (.cells #[lv] 57) := (hg.block X (Array.getElem?_eq_some_iff.1 h.box).1 (fun e => own_box2 h.own h.box (by decide) e.symm)).trans h.box
  have hlow : Below W.heap.size W u' := h.low.grown hg h.low.size (fun j hj => owns_ge h.own hj)
  refine ⟨⟨hlow.setCell h.ge _, heap_setCell_same u' X 0 _ _ lv' hb, ?_, h.ge⟩, by rw [Lib.cell_of_heap hb]; rfl, Lib.frozen_of_heap hb 0⟩
  have hg2 := grown_set u' X 0 lv'
  refine ⟨ho.1, ?_⟩
  rcases ho.2 with q | ⟨g, cap, cur, rfl, q2, q3, q4⟩
  · exact .inl q
  · refine .inr ⟨g, cap, cur, rfl, q2, ?_, q4⟩
    rw [hg2.block g (Array.getElem?_eq_some_iff.1 q3).1 (fun e => by
      cases e
      rw [hb] at q3
      simp at q3)]
    exact q3
end
set_option maxHeartbeats 8000000 in
set_option maxRecDepth 40000 in
theorem clay_f (sg : Int) (l acc : List Mk) (W : World) (X : Nat) (lv v : Value) (w : World) (hy : Ly W X lv acc w) (hv : HMk W v l) (hl : l.length ≤ 1099511627776) (ha : acc.length ≤ 1099511627776) (R : List Mk) (HR : Hid (acc ++ l.map (fun m => ⟨sg, m.tx⟩) = R)) :
    Calls Tryz.prog 215 #[.int .u8 sg, v, .pointer (some ⟨X, 0, none⟩)] w fun e w' => e = .returned (.tuple #[]) ∧ ∃ lv', Ly W X lv' R w' := by
  obtain ⟨lo, lc, rfl⟩ := HMk.form hv
  have HR0 : Hid (acc ++ (l.drop 0).map (fun m => (⟨sg, m.tx⟩ : Mk)) = R ∧ acc.length = acc.length + 0) := ⟨by rw [List.drop_zero]; exact HR.out, rfl⟩
  clear HR
  go_enter Tryz.func215, Tryz.ntmps215
  go_wp2
  go_loopw [9] (fun i wr => ∃ (k : Nat) (lv' : Value) (ac : List Mk), k ≤ l.length ∧ i = .int .i64 k ∧ Ly W X lv' ac wr ∧ Hid (ac ++ (l.drop k).map (fun m => (⟨sg, m.tx⟩ : Mk)) = R ∧ ac.length = acc.length + k)) (fun i _ => l.length - (intOf i).toNat)
  case atStart => exact ⟨0, lv, acc, Nat.zero_le _, by go_num, hy, HR0⟩
  case round =>
  clear HR0 hy
  obtain ⟨k, lv1, ac, hk, rfl, hy, HI⟩ := hrel
  by_cases hlt : k < l.length
  · obtain ⟨bk, off, rfl, hbk, _⟩ := HMk.at hv (by omega)
    obtain ⟨m, hm⟩ : ∃ m, l[k] = m := ⟨_, rfl⟩
    obtain ⟨c0, c1⟩ := Low.mk hy.low hv k hlt hm
    have i1 : (0 : Int) ≤ (k : Int) := by omega
    have i2 : (k : Int) < (l.length : Int) := by omega
    have HI2 : Hid ((ac ++ [⟨sg, m.tx⟩]) ++ (l.drop (k + 1)).map (fun m => (⟨sg, m.tx⟩ : Mk)) = R ∧ (ac ++ [(⟨sg, m.tx⟩ : Mk)]).length = acc.length + (k + 1)) := (by
      have h := HI.out
      rw [List.drop_eq_getElem_cons hlt, hm] at h
      refine ⟨?_, ?_⟩
      · rw [← h.1]; simp
      · rw [List.length_append, h.2]; simp; omega)
    have hal : ac.length ≤ 2199023255551 := (by have := HI.out.2; omega)
    have hBa : Below wr.heap.size wr (wr.alloc (.cells #[.int .u8 m.sg, .string ⟨m.tx.toArray⟩] 103)) := (Below.refl _ wr).alloc (Nat.le_refl _) _
    have hya := hy.keep hBa
    have hBb : Below (wr.alloc (.cells #[.int .u8 m.sg, .string ⟨m.tx.toArray⟩] 103)).heap.size (wr.alloc (.cells #[.int .u8 m.sg, .string ⟨m.tx.toArray⟩] 103)) ((wr.alloc (.cells #[.int .u8 m.sg, .string ⟨m.tx.toArray⟩] 103)).alloc (mkO ⟨sg, m.tx⟩)) := (Below.refl _ _).alloc (Nat.le_refl _) _
    have hyb := hya.keep hBb
    have hrow := mk_row (wr.alloc (.cells #[.int .u8 m.sg, .string ⟨m.tx.toArray⟩] 103)) ⟨sg, m.tx⟩
    rw [show (wr.alloc (.cells #[.int .u8 m.sg, .string ⟨m.tx.toArray⟩] 103)).heap.size = wr.heap.size + 1 by simp] at hrow
    have hx0 := hya.cell
    have hx1 := hy.cell
    have hW : (wr.alloc (.cells #[.int .u8 m.sg, .string ⟨m.tx.toArray⟩] 103)).alloc (.cells #[.int .u8 sg, .string ⟨m.tx.toArray⟩] 103) = (wr.alloc (.cells #[.int .u8 m.sg, .string ⟨m.tx.toArray⟩] 103)).alloc (mkO ⟨sg, m.tx⟩) := rfl
    have hownb := hyb.own
    have hlow := hyb.low.size
    obtain ⟨o1, n1, c1', rfl⟩ : ∃ o n c, lv1 = .slice o n c := (by obtain ⟨o, c, h⟩ := (holds_of hy.own).form; exact ⟨o, _, c, h⟩)
    clear HI hm hBa hBb hya hy
    go_wp2_with (at_builtin; refine wpList_append_w _ (by kernel_rfl) (.tmp 13) (.tmp 18) 57 103 (.agg #[.int .u8 0, .string ⟨#[]⟩]) 2 24 rfl Tryz.underlying57 infoMk rfl (by decide) (by decide) W.heap.size _ _ _ rfl hownb _ 1 (mkcells [⟨sg, m.tx⟩]) rfl hrow (mkcells_length _) (mkcells_one _) (by omega) hlow ?_)
    intro v3 u3 hown3 hg3 _
    rw [← mkcells_append] at hown3
    obtain ⟨hy3, x1, x2⟩ := hyb.more hg3 hown3 (by rw [List.length_append]; rfl)
    obtain ⟨o3, c3, rfl⟩ := (holds_of hown3).form
    clear hW hrow hownb hown3 hg3 hyb hx0 hx1 c0 c1
    go_wp2
    exact ⟨⟨k + 1, _, _, by omega, by go_num, hy3, HI2⟩, by simp [intOf]; omega⟩
  · have hend : decide ((k : Int) < (l.length : Int)) = false := decide_eq_false (by omega)
    have hE : ac = R := (by
      have h := HI.out.1
      rw [List.drop_of_length_le (by omega)] at h
      simpa using h)
    subst hE
    clear HI
    go_wp2
    first
      | go_end0
      | refine bodyPost_ret (results_none rfl _ _ _) rfl ?_
      | refine bodyPost_end (results_none rfl _ _ _) rfl ?_
    exact ⟨rfl, lv1, hy⟩
theorem mk_ne (s t : List UInt8) (r : Bool) (h : (s != t) = r) (u : World) : (binOp .neq 103 (.agg #[.int .u8 32, .string ⟨s.toArray⟩]) (.agg #[.int .u8 32, .string ⟨t.toArray⟩])).run Tryz.prog u = .ok (.bool r) u := by
  have hst : Tryz.prog.underlying 103 = some (.struct (Tryz.prog.fieldsOf 103)) := by kernel_rfl
  have hsi : Tryz.prog.stoodInHeld 103 = false := by kernel_rfl
  have hff : (Tryz.prog.fieldsOf 103).toList = [⟨"Sign", 5, 0, false, "", "", 0⟩, ⟨"Text", 9, 1, false, "", "", 8⟩] := by kernel_rfl
  rw [run_neq_struct, run_equalIn_agg u 9999 _ _ _ hst hsi, hff]
  have p1 : ∀ (x y : Value) (u : World), (part 5 #[.int .u8 32, y] 0).run Tryz.prog u = .ok (.int .u8 32) u := fun _ _ _ => by kernel_rfl
  have p2 : ∀ (z : ByteArray) (u : World), (part 9 #[.int .u8 32, .string z] 1).run Tryz.prog u = .ok (.string z) u := fun _ _ => by kernel_rfl
  have q1 := run_equalIn_int (P := Tryz.prog) u 9998 5 .u8 .u8 32 32 Tryz.underlying5
  have q2 := run_equalIn_string (P := Tryz.prog) u 9998 9 ⟨s.toArray⟩ ⟨t.toArray⟩ Tryz.underlying9
  have e1 : (⟨s.toArray⟩ : ByteArray).toList = s := by rw [ByteArray.toList_eq]
  have e2 : (⟨t.toArray⟩ : ByteArray).toList = t := by rw [ByteArray.toList_eq]
  rw [e1, e2] at q2
  have n1 : ("Sign" : String) ≠ "_" := by decide
  have n2 : ("Text" : String) ≠ "_" := by decide
  simp only [Op.eqFields, n1, n2, ne_eq, not_false_eq_true, if_true, Sem.run_bind, p1 .nilIface, p2, q1, q2, Result.andThen_ok, Sem.run_ite]
  rw [← h]
  cases hst2 : (s == t) <;> simp [bne, hst2]
theorem rst_drop (l : List Mk) : l.drop (chgM l).length = rstM l := by
  have h := chg_rstM l
  have h2 : (chgM l ++ rstM l).drop (chgM l).length = rstM l := List.drop_left
  rw [h] at h2
  exact h2
theorem len_zero {l : List Mk} : ((l.length : Int) == 0) = decide (l = []) := by
  rw [Bool.eq_iff_iff, beq_iff_eq, decide_eq_true_eq]
  constructor
  · intro h; exact List.eq_nil_of_length_eq_zero (by omega)
  · rintro rfl; rfl
def thenJ (a : List Mk) (X : Option (List Mk)) : Option (List Mk) := X.map (a ++ ·)
/-- what laid answers -/
def LdQ (w : World) (X : Option (List Mk)) (e : Ending) (w' : World) : Prop := ∃ v r, e = .returned (.tuple #[v, .bool r]) ∧ Below w.heap.size w w' ∧ match X with
  | none => r = false
  | some l => r = true ∧ w'.ownsRow w.heap.size 103 2 v l.length (mkcells l)
theorem thenJ_none {a : List Mk} {X : Option (List Mk)} (h : X = none) : thenJ a X = none := by rw [h]; rfl
set_option maxHeartbeats 16000000 in
set_option maxRecDepth 40000 in
theorem claid_f (o v : Sde) (vo vv : Value) (w : World) (ho : HMk w vo (kM o)) (hv : HMk w vv (kM v)) (hol : o.length ≤ 137438953472) (hvl : v.length ≤ 137438953472) (Y : Option (List Mk)) (HY : Hid (jnX o v = Y)) :
    Calls Tryz.prog 155 #[vo, vv] w fun e w' => LdQ w Y e w' := by
  have hX0 : Ly w w.heap.size (.slice none 0 0) [] (w.alloc (.cells #[.slice none 0 0] 57)) := ⟨(Below.refl _ w).alloc (Nat.le_refl _) _, heap_alloc_new w _, hnil_row _ _ _ _, Nat.le_refl _⟩
  have HI0 : Hid (thenJ [] (jnX o v) = Y ∧ ([] : List Mk).length + o.length + v.length ≤ o.length + v.length) := ⟨by rw [← HY.out]; unfold thenJ; cases jnX o v <;> rfl, by simp⟩
  obtain ⟨T, hT⟩ : ∃ T, o.length + v.length = T := ⟨_, rfl⟩
  rw [hT] at HI0
  have hTl : T ≤ 274877906944 := by omega
  obtain ⟨ao, ac, rfl⟩ := HMk.form ho
  obtain ⟨bo, bc, rfl⟩ := HMk.form hv
  clear HY hT
  have hmf : ∀ (fn : Fn) (first cap : Array Value) (w : World), (Instr.makeFunc fn first cap).run Tryz.prog w = .ok (.func fn first cap) w := fun _ _ _ _ => rfl
  go_enter Tryz.func155, Tryz.ntmps155
  go_wp2
  generalize hX : w.heap.size = X at hX0 ⊢
  have HX : Hid (w.heap.size = X) := hX
  clear hX
  go_loopw [0, 1] (fun ov nv wr => ∃ (o v : Sde) (lv : Value) (acc : List Mk) (ao bo : Option Addr) (ac bc : Nat), ov = .slice ao (kM o).length ac ∧ nv = .slice bo (kM v).length bc ∧ HMk w (.slice ao (kM o).length ac) (kM o) ∧ HMk w (.slice bo (kM v).length bc) (kM v) ∧ Ly w X lv acc wr ∧ Hid (thenJ acc (jnX o v) = Y ∧ acc.length + o.length + v.length ≤ T)) (fun ov _ _ => lenW ov)
  case atStart => exact ⟨o, v, _, [], ao, bo, ac, bc, rfl, rfl, ho, hv, hX0, HI0⟩
  case round =>
  clear HI0 hX0 ho hv hol hvl
  obtain ⟨o, v, lv, acc, ao, bo, ac, bc, rfl, rfl, ho, hv, hy, HI⟩ := hrel
  have hoT : o.length ≤ 274877906944 := (by have := HI.out.2; omega)
  obtain ⟨n1, hn1⟩ : ∃ n, (chgM (kM o)).length = n := ⟨_, rfl⟩
  obtain ⟨n2, hn2⟩ : ∃ n, (chgM (kM v)).length = n := ⟨_, rfl⟩
  have le1 : n1 ≤ (kM o).length := (by rw [← hn1]; exact chg_le _)
  have le2 : n2 ≤ (kM v).length := (by rw [← hn2]; exact chg_le _)
  have g1 := mk_to ho n1 le1
  have g2 := mk_to hv n2 le2
  rw [show (kM o).take n1 = chgM (kM o) by rw [← hn1]; exact chg_take _] at g1
  rw [show (kM v).take n2 = chgM (kM v) by rw [← hn2]; exact chg_take _] at g2
  have d1 := mk_from ho n1 le1
  have d2 := mk_from hv n2 le2
  have s1 := run_mF ao (kM o).length ac n1 le1 (mhold_cap ho)
  have s2 := run_mF bo (kM v).length bc n2 le2 (mhold_cap hv)
  rw [show (kM o).drop n1 = kM (rstS o) by rw [← hn1, rst_drop, rst_kM]] at d1
  rw [show (kM v).drop n2 = kM (rstS v) by rw [← hn2, rst_drop, rst_kM]] at d2
  have x1 : (kM o).length - n1 = (kM (rstS o)).length := (by rw [← rst_kM, ← rst_drop, hn1, List.length_drop])
  have x2 : (kM v).length - n2 = (kM (rstS v)).length := (by rw [← rst_kM, ← rst_drop, hn2, List.length_drop])
  rw [x1] at d1 s1
  rw [x2] at d2 s2
  clear x1 x2
  have HLen : Hid (acc.length + o.length + v.length ≤ T ∧ n1 + (rstS o).length = o.length ∧ n2 + (rstS v).length = v.length) := ⟨HI.out.2, by
    have h := congrArg List.length (chg_rst o)
    rw [List.length_append] at h
    rw [← hn1, chg_kM, kM_len]
    exact h, by
    have h := congrArg List.length (chg_rst v)
    rw [List.length_append] at h
    rw [← hn2, chg_kM, kM_len]
    exact h⟩
  obtain ⟨mr, hmr⟩ : ∃ r, mtM (chgM (kM o)) (chgM (kM v)) = r := ⟨_, rfl⟩
  have hokr : okJ (chgS o) (chgS v) = mr := (by rw [← hmr, chg_kM, chg_kM, mt_kM])
  have HJ := HI.out.1
  rw [jnX_eq, hokr] at HJ
  obtain ⟨A1, hA1⟩ : ∃ Z, acc ++ (chgM (kM o)).map (fun m => (⟨45, m.tx⟩ : Mk)) = Z := ⟨_, rfl⟩
  obtain ⟨A2, hA2⟩ : ∃ Z, A1 ++ (chgM (kM v)).map (fun m => (⟨43, m.tx⟩ : Mk)) = Z := ⟨_, rfl⟩
  have HA : Hid (acc ++ (mkS 45 (chgS o) ++ mkS 43 (chgS v)) = A2) := (by
    show _ = _
    rw [← hA2, ← hA1, mkS_kM, mkS_kM, ← chg_kM, ← chg_kM, List.append_assoc])
  have HAl : Hid (acc.length ≤ 274877906944 ∧ A1.length = acc.length + n1 ∧ A2.length = acc.length + n1 + n2) := (by
    have h1 := congrArg List.length hA1
    have h2 := congrArg List.length hA2
    simp only [List.length_append, List.length_map, hn1, hn2] at h1 h2
    have := HLen.out.1
    exact ⟨by omega, by omega, by omega⟩)
  have cp1 := fun u hu => cpiece_f (kM o) ao ac u (ho.keep hu (Nat.le_refl _)) (by have := HLen.out; rw [kM_len]; omega) n1 hn1
  have cp2 := fun u hu => cpiece_f (kM v) bo bc u (hv.keep hu (Nat.le_refl _)) (by have := HLen.out; rw [kM_len]; omega) n2 hn2
  have cm := fun u hu => cmatched_f (chgM (kM o)) (chgM (kM v)) (.slice ao n1 ac) (.slice bo n2 bc) u (g1.keep hu (Nat.le_refl _)) (g2.keep hu (Nat.le_refl _)) (by have := HLen.out; rw [hn1]; omega) (by have := HLen.out; rw [hn2]; omega) mr hmr
  generalize mslF ao ac n1 = ao2 at d1 s1
  generalize ac - n1 = ac2 at d1 s1
  generalize mslF bo bc n2 = bo2 at d2 s2
  generalize bc - n2 = bc2 at d2 s2
  clear hmr hokr HI
  go_wp2_with fail
  refine (cp1 wr hy.low).mono ?_
  rintro e w1 ⟨rfl, hB1⟩
  have hy1 := hy.keep hB1
  go_wp2_with fail
  refine (cp2 w1 hy1.low).mono ?_
  rintro e w2 ⟨rfl, hB2⟩
  have hy2 := hy1.keep hB2
  go_wp2_with fail
  refine (cm w2 hy2.low).mono ?_
  rintro e w3 ⟨rfl, hB3⟩
  have hy3 := hy2.keep hB3
  clear hy hy1 hy2 hB1 hB2 hB3 cp1 cp2 cm
  cases mr with
  | false =>
    rw [if_neg (by decide)] at HJ
    have HE : Hid (none = Y) := HJ
    clear HJ
    go_wp2
    go_ret2
    exact ⟨_, _, rfl, hy3.low, by rw [← HE.out]⟩
  | true =>
    rw [if_pos rfl] at HJ
    have cl1 := fun lv u (hy : Ly w X lv acc u) => clay_f 45 (chgM (kM o)) acc w X lv (.slice ao n1 ac) u hy g1 (by have := HLen.out; rw [hn1]; omega) (by have := HAl.out; omega) A1 hA1
    have cl2 := fun lv u (hy : Ly w X lv A1 u) => clay_f 43 (chgM (kM v)) A1 w X lv (.slice bo n2 bc) u hy g2 (by have := HLen.out; rw [hn2]; omega) (by have := HAl.out; have := HLen.out; omega) A2 hA2
    have HJ2 : Hid (thenJ acc (match rstS o, rstS v with
      | [], [] => some (mkS 45 (chgS o) ++ mkS 43 (chgS v))
      | (_, s) :: o2, (_, t) :: w2 => if s = t then match jnX o2 w2 with
        | none => none
        | some l => some (mkS 45 (chgS o) ++ (mkS 43 (chgS v) ++ ⟨32, s⟩ :: l)) else none
      | _, _ => none) = Y) := HJ
    have HF : Hid ((∀ y x2, rstS o = y :: x2 → y.1 = 32) ∧ (∀ y x2, rstS v = y :: x2 → y.1 = 32)) := ⟨fun y x2 h => rst_head h, fun y x2 h => rst_head h⟩
    clear HJ hA1 hA2 g1 g2 hn1 hn2 ho hv
    go_wp2_with fail
    refine (cl1 _ _ hy3).mono ?_
    rintro e w4 ⟨rfl, lv4, hy4⟩
    clear hy3 cl1
    go_wp2_with fail
    refine (cl2 _ _ hy4).mono ?_
    rintro e w5 ⟨rfl, lv5, hy5⟩
    clear hy4 cl2
    go_wp2_with fail
    go_quiet (fail)
    have hyd : Ly w X lv5 A2 (w5.drewN nq) := hy5.keep (below_drewN (Below.refl _ _) nq)
    clear hy5 s1 s2
    generalize w5.drewN nq = w6 at hyd ⊢
    have hYc := hyd.cell
    generalize rstS o = O at d1 HJ2 HF HLen ⊢
    generalize rstS v = V at d2 HJ2 HF HLen ⊢
    have HR : Hid (ac2 + bc2 + n1 + n2 + n1 + n2 ≥ 0) := Nat.zero_le _
    cases O with
    | nil =>
      have e0 : (kM ([] : Sde)).length = 0 := rfl
      rw [e0]
      cases V with
      | nil =>
        rw [e0]
        have HE : Hid (some A2 = Y) := (by rw [← HJ2.out]; show _ = thenJ acc (some _); show _ = some (acc ++ _); rw [HA.out])
        clear HJ2 HF d1 d2
        go_wp2
        go_ret2
        exact ⟨_, _, rfl, hyd.low, by rw [← HE.out]; exact ⟨rfl, hyd.own⟩⟩
      | cons z v3 =>
        have f2 : (((0 : Nat) : Int) == ((kM (z :: v3)).length : Int)) = false := (by simp [kM]; omega)
        have HE : Hid (none = Y) := HJ2.out
        clear HJ2 HF d1 d2
        generalize (kM (z :: v3)).length = L2 at f2 ⊢
        go_wp2
        go_ret2
        exact ⟨_, _, rfl, hyd.low, by rw [← HE.out]; exact f2⟩
    | cons y o3 =>
      have f1 : (((kM (y :: o3)).length : Int) == 0) = false := (by simp [kM]; omega)
      cases V with
      | nil =>
        have e0 : (kM ([] : Sde)).length = 0 := rfl
        rw [e0]
        have HE : Hid (none = Y) := HJ2.out
        clear HJ2 HF d1 d2
        generalize (kM (y :: o3)).length = L1 at f1 ⊢
        go_wp2
        go_ret2
        exact ⟨_, _, rfl, hyd.low, by rw [← HE.out]⟩
      | cons z v3 =>
        have f2 : (((kM (z :: v3)).length : Int) == 0) = false := (by simp [kM]; omega)
        obtain ⟨yk, ys⟩ := y
        obtain ⟨zk, zs⟩ := z
        obtain rfl : yk = 32 := HF.out.1 _ _ rfl
        obtain rfl : zk = 32 := HF.out.2 _ _ rfl
        obtain ⟨L1, hL1⟩ : ∃ n, (kM ((32, ys) :: o3)).length = n := ⟨_, rfl⟩
        obtain ⟨L2, hL2⟩ : ∃ n, (kM ((32, zs) :: v3)).length = n := ⟨_, rfl⟩
        have p1 : 0 < L1 := (by rw [← hL1, kM_cons]; exact Nat.succ_pos _)
        have p2 : 0 < L2 := (by rw [← hL2, kM_cons]; exact Nat.succ_pos _)
        have k1 := mhold_cap d1
        have k2 := mhold_cap d2
        obtain ⟨ob, oo, rfl, hob, _⟩ := HMk.at d1 (by rw [hL1]; exact p1)
        obtain ⟨vb, vo, rfl, hvb, _⟩ := HMk.at d2 (by rw [hL2]; exact p2)
        obtain ⟨y1, y2⟩ := Low.mk hyd.low d1 0 (by rw [hL1]; exact p1) (x := ⟨32, ys⟩) rfl
        obtain ⟨z1, z2⟩ := Low.mk hyd.low d2 0 (by rw [hL2]; exact p2) (x := ⟨32, zs⟩) rfl
        have s1 := run_mF (some ⟨ob, oo, none⟩) L1 ac2 1 (by omega) (by omega)
        have s2 := run_mF (some ⟨vb, vo, none⟩) L2 bc2 1 (by omega) (by omega)
        have t1 := run_mT (some ⟨ob, oo, none⟩) L1 ac2 1 (by omega) (by omega)
        have r1 := mk_from d1 1 (by omega)
        have r2 := mk_from d2 1 (by omega)
        have ra := mk_to d1 1 (by omega)
        rw [hL1] at r1 f1
        rw [hL2] at r2 f2
        rw [hL1, hL2]
        have hg1 : L1 - 1 = (kM o3).length := (by rw [← hL1, kM_cons]; rfl)
        have hg2 : L2 - 1 = (kM v3).length := (by rw [← hL2, kM_cons]; rfl)
        rw [hg1] at r1 s1
        rw [hg2] at r2 s2
        have hr1 : HMk w (.slice (mslF (some ⟨ob, oo, none⟩) ac2 1) (kM o3).length (ac2 - 1)) (kM o3) := r1
        have hr2 : HMk w (.slice (mslF (some ⟨vb, vo, none⟩) bc2 1) (kM v3).length (bc2 - 1)) (kM v3) := r2
        have hra : HMk w (.slice (some ⟨ob, oo, none⟩) 1 ac2) [⟨32, ys⟩] := ra
        clear r1 r2 ra d1 d2
        obtain ⟨ao4, hao4⟩ : ∃ x, mslF (some ⟨ob, oo, none⟩) ac2 1 = x := ⟨_, rfl⟩
        rw [hao4] at s1 hr1
        have HA4 : Hid ((if ac2 = 1 then some (⟨ob, oo, none⟩ : Addr) else some ⟨ob, oo + 2, none⟩) = ao4) := (by
          show _ = _
          rw [← hao4, mslF]
          split <;> rfl)
        clear hao4
        obtain ⟨bo4, hbo4⟩ : ∃ x, mslF (some ⟨vb, vo, none⟩) bc2 1 = x := ⟨_, rfl⟩
        rw [hbo4] at s2 hr2
        have HB : Hid ((if bc2 = 1 then some (⟨vb, vo, none⟩ : Addr) else some ⟨vb, vo + 2, none⟩) = bo4) := (by
          show _ = _
          rw [← hbo4, mslF]
          split <;> rfl)
        clear hbo4
        rw [Nat.zero_mul, Nat.add_zero] at y1 y2 z1 z2
        obtain ⟨r, hr⟩ : ∃ r, (ys != zs) = r := ⟨_, rfl⟩
        have hne := mk_ne ys zs r hr
        have hg : Tryz.prog.eqGuardType Tryz.prog.depth 103 = false := by kernel_rfl
        clear hmf
        have HLen2 : Hid (A2.length + 1 + o3.length + v3.length ≤ T) := (by
          have h1 := HLen.out
          have h2 := HAl.out
          simp only [List.length_cons] at h1
          show _ ≤ _
          omega)
        have cl := fun lv u (hy : Ly w X lv A2 u) => clay_f 32 [⟨32, ys⟩] A2 w X lv (.slice (some ⟨ob, oo, none⟩) 1 ac2) u hy hra (by simp) (by have := HLen2.out; omega) (A2 ++ [(⟨32, ys⟩ : Mk)]) (by show _ = _; rfl)
        have i1 : (0 : Int) < (L1 : Int) := by omega
        have i2 : (0 : Int) < (L2 : Int) := by omega
        go_wp2_with fail
        go_quiet (fail)
        have hye := hyd.keep (below_drewN (Below.refl _ _) nq)
        clear hyd hYc y1 y2 z1 z2 hne i1 i2 hg f1 f2
        generalize w6.drewN nq = w7 at hye ⊢
        cases r with
        | true =>
          have hne2 : ys ≠ zs := (by intro e; subst e; simp at hr)
          have HE : Hid (none = Y) := (by
            have h := HJ2.out
            rw [if_neg hne2] at h
            exact h)
          clear HJ2
          go_wp2
          go_ret2
          exact ⟨_, _, rfl, hye.low, by rw [← HE.out]⟩
        | false =>
          have he2 : ys = zs := (by simpa using hr)
          have HE : Hid (thenJ (A2 ++ [⟨32, ys⟩]) (jnX o3 v3) = Y) := (by
            have h := HJ2.out
            rw [if_pos he2] at h
            show _ = _
            rw [← h, ← HA.out]
            cases jnX o3 v3 with
            | none => rfl
            | some l => simp [thenJ])
          clear HJ2 HF hr
          go_wp2_with fail
          refine (cl _ _ hye).mono ?_
          rintro e w8 ⟨rfl, lv8, hy8⟩
          clear hye cl
          go_wp2_with fail
          go_quiet (fail)
          have hy9 := hy8.keep (below_drewN (Below.refl _ _) nq)
          clear hy8
          go_wp2
          refine ⟨⟨o3, v3, lv8, _, ao4, bo4, ac2 - 1, bc2 - 1, by first | rfl | rw [HA4.out], by first | rfl | rw [HB.out], hr1, hr2, hy9, ⟨HE.out, ?_⟩⟩, ?_⟩
          · have h := HLen2.out
            rw [List.length_append]
            simp only [List.length_singleton]
            omega
          · have h := HLen.out.2.1
            simp only [List.length_cons] at h
            simp only [lenW, kM_len]
            omega
end Go.Proofs.YtgiojkhmkeocfaaGreatDoor

/- The code's checkRanges of layer 15, walked. -/
set_option maxRecDepth 20000
namespace Go.Proofs.YtgiojkhmkeocfaaGreatDoor
open Go.RowKit

/-- does a range say as many lines as there are? -/
def cntR (a b : Int) (n : Nat) : Bool := decide ((n : Int) = b - a + 1) || (decide ((n : Int) = 0) && decide (b - a + 1 = 1))
set_option maxHeartbeats 4000000 in
theorem ccounted_f (x a b : Int) (lo : Option Addr) (n c : Nat) (w : World) (ha : 0 ≤ a) (hb : b ≤ 2147483647) (hab : a ≤ b) (_hn : n ≤ 1099511627776) (r : Bool) (HR : Hid (cntR a b n = r)) :
    Calls Tryz.prog 214 #[.agg #[.int .i64 x, .int .i64 a, .int .i64 b, .slice lo n c]] w fun e w' => e = .returned (.bool r) ∧ Below w.heap.size w w' := by
  have hBl : Below w.heap.size w (w.alloc (.cells #[.int .i64 x, .int .i64 a, .int .i64 b, .slice lo n c] 208)) := (Below.refl _ w).alloc (Nat.le_refl _) _
  have HR2 := HR.out
  unfold cntR at HR2
  clear HR
  go_enter Tryz.func214, Tryz.ntmps214
  by_cases h1 : (n : Int) = b - a + 1
  · have f1 : ((n : Int) == b - a + 1) = true := beq_iff_eq.2 h1
    rw [decide_eq_true h1, Bool.true_or] at HR2
    subst HR2
    clear h1
    go_wp2
    go_ret
    exact ⟨rfl, hBl⟩
  · have f1 : ((n : Int) == b - a + 1) = false := beq_eq_false_iff_ne.2 h1
    rw [decide_eq_false h1, Bool.false_or] at HR2
    clear h1
    by_cases h2 : (n : Int) = 0
    · have f2 : ((n : Int) == 0) = true := beq_iff_eq.2 h2
      rw [decide_eq_true h2, Bool.true_and] at HR2
      have f3 : (b - a + 1 == 1) = r := (by rw [← HR2, Bool.eq_iff_iff, beq_iff_eq, decide_eq_true_eq])
      clear h2 HR2
      go_wp2
      go_ret
      exact ⟨rfl, hBl⟩
    · have f2 : ((n : Int) == 0) = false := beq_eq_false_iff_ne.2 h2
      rw [decide_eq_false h2, Bool.false_and] at HR2
      subst HR2
      clear h2
      go_wp2
      go_ret
      exact ⟨rfl, hBl⟩
def rgX (r0 r1 z0 z1 : Bool) (x0 x1 : Int) : Option (Int × Int) :=
  if r0 = false then some (x0, 120) else if r1 = false then some (x1, 120) else if z0 = true then some (x0, 2) else if z1 = true then some (x1, 2) else none
def RgQ (w : World) (Y : Option (Int × Int)) (e : Ending) (w' : World) : Prop := Below w.heap.size w w' ∧ match Y with
  | none => e = .returned (.tuple #[])
  | some (a, z) => Thr a z e w'
theorem gtr_zero {n : Nat} : decide ((n : Int) > 0) = decide (0 < n) := by
  rw [Bool.eq_iff_iff, decide_eq_true_eq, decide_eq_true_eq]
  omega
theorem zero_eq (a : Int) : (a == 0) = decide (a = 0) := by
  rw [Bool.eq_iff_iff, beq_iff_eq, decide_eq_true_eq]
set_option maxHeartbeats 8000000 in
theorem ccheckR_f (x0 a0 b0 x1 a1 b1 : Int) (l0 l1 : Option Addr) (n0 c0 n1 c1 : Nat) (w : World) (ha0 : 0 ≤ a0) (hb0 : b0 ≤ 2147483647) (hab0 : a0 ≤ b0) (hn0 : n0 ≤ 1099511627776) (ha1 : 0 ≤ a1) (hb1 : b1 ≤ 2147483647) (hab1 : a1 ≤ b1) (hn1 : n1 ≤ 1099511627776) (Y : Option (Int × Int))
    (HY : Hid (rgX (cntR a0 b0 n0) (cntR a1 b1 n1) (decide (a0 = 0) && decide (0 < n0)) (decide (a1 = 0) && decide (0 < n1)) x0 x1 = Y)) :
    Calls Tryz.prog 154 #[.agg #[.int .i64 x0, .int .i64 a0, .int .i64 b0, .slice l0 n0 c0], .agg #[.int .i64 x1, .int .i64 a1, .int .i64 b1, .slice l1 n1 c1]] w fun e w' => RgQ w Y e w' := by
  obtain ⟨r0, hr0⟩ : ∃ r, cntR a0 b0 n0 = r := ⟨_, rfl⟩
  obtain ⟨r1, hr1⟩ : ∃ r, cntR a1 b1 n1 = r := ⟨_, rfl⟩
  obtain ⟨z0, hz0⟩ : ∃ r, (decide (a0 = 0) && decide (0 < n0)) = r := ⟨_, rfl⟩
  obtain ⟨z1, hz1⟩ : ∃ r, (decide (a1 = 0) && decide (0 < n1)) = r := ⟨_, rfl⟩
  rw [hr0, hr1, hz0, hz1] at HY
  have cc0 := fun u => ccounted_f x0 a0 b0 l0 n0 c0 u ha0 hb0 hab0 hn0 r0 hr0
  have cc1 := fun u => ccounted_f x1 a1 b1 l1 n1 c1 u ha1 hb1 hab1 hn1 r1 hr1
  have hB0 : Below w.heap.size w (((w.alloc (.cells #[.int .i64 x0, .int .i64 a0, .int .i64 b0, .slice l0 n0 c0] 208)).alloc (.cells #[.int .i64 x1, .int .i64 a1, .int .i64 b1, .slice l1 n1 c1] 208)).alloc (.cells #[.int .i64 x0, .int .i64 a0, .int .i64 b0, .slice l0 n0 c0, .int .i64 x1, .int .i64 a1, .int .i64 b1, .slice l1 n1 c1] 208)) := (((Below.refl _ w).alloc (Nat.le_refl _) _).alloc (by simp) _).alloc (by simp; omega) _
  have hblk := heap_alloc_new ((w.alloc (.cells #[.int .i64 x0, .int .i64 a0, .int .i64 b0, .slice l0 n0 c0] 208)).alloc (.cells #[.int .i64 x1, .int .i64 a1, .int .i64 b1, .slice l1 n1 c1] 208)) (.cells #[.int .i64 x0, .int .i64 a0, .int .i64 b0, .slice l0 n0 c0, .int .i64 x1, .int .i64 a1, .int .i64 b1, .slice l1 n1 c1] 208)
  have hsz : ((w.alloc (.cells #[.int .i64 x0, .int .i64 a0, .int .i64 b0, .slice l0 n0 c0] 208)).alloc (.cells #[.int .i64 x1, .int .i64 a1, .int .i64 b1, .slice l1 n1 c1] 208)).heap.size = w.heap.size + 2 := by simp
  rw [hsz] at hblk
  clear hr0 hr1 hsz
  go_enter Tryz.func154, Tryz.ntmps154
  go_wp2
  generalize ((w.alloc (.cells #[.int .i64 x0, .int .i64 a0, .int .i64 b0, .slice l0 n0 c0] 208)).alloc (.cells #[.int .i64 x1, .int .i64 a1, .int .i64 b1, .slice l1 n1 c1] 208)).alloc (.cells #[.int .i64 x0, .int .i64 a0, .int .i64 b0, .slice l0 n0 c0, .int .i64 x1, .int .i64 a1, .int .i64 b1, .slice l1 n1 c1] 208) = w0 at hB0 hblk ⊢
  go_loopw [14] (fun i wr => ∃ k : Nat, i = .int .i64 k ∧ (k = 0 ∨ k = 1 ∧ r0 = true ∨ k = 2 ∧ r0 = true ∧ r1 = true) ∧ Below w.heap.size w wr ∧ wr.heap[w.heap.size + 2]? = some (.cells #[.int .i64 x0, .int .i64 a0, .int .i64 b0, .slice l0 n0 c0, .int .i64 x1, .int .i64 a1, .int .i64 b1, .slice l1 n1 c1] 208)) (fun i _ => 2 - (intOf i).toNat)
  case atStart => exact ⟨0, by go_num, .inl rfl, hB0, hblk⟩
  case round =>
  clear hB0 hblk
  obtain ⟨k, rfl, hk, hB, hbl⟩ := hrel
  have hAl : ∀ O, Below w.heap.size w (wr.alloc O) ∧ (wr.alloc O).heap[w.heap.size + 2]? = some (.cells #[.int .i64 x0, .int .i64 a0, .int .i64 b0, .slice l0 n0 c0, .int .i64 x1, .int .i64 a1, .int .i64 b1, .slice l1 n1 c1] 208) := fun O => ⟨hB.alloc hB.size _, (((Below.refl _ wr).alloc (Nat.le_refl _) O).block _ (Array.getElem?_eq_some_iff.1 hbl).1).trans hbl⟩
  rcases hk with rfl | ⟨rfl, h0⟩ | ⟨rfl, h0, h1⟩
  · have e0 : wr.cell? ⟨w.heap.size + 2, 0, none⟩ = some (.int .i64 x0) := (by rw [Lib.cell_of_heap hbl]; rfl)
    have e1 : wr.cell? ⟨w.heap.size + 2, 1, none⟩ = some (.int .i64 a0) := (by rw [Lib.cell_of_heap hbl]; rfl)
    have e2 : wr.cell? ⟨w.heap.size + 2, 2, none⟩ = some (.int .i64 b0) := (by rw [Lib.cell_of_heap hbl]; rfl)
    have e3 : wr.cell? ⟨w.heap.size + 2, 3, none⟩ = some (.slice l0 n0 c0) := (by rw [Lib.cell_of_heap hbl]; rfl)
    obtain ⟨hB1, hb1⟩ := hAl (.cells #[.int .i64 x0, .int .i64 a0, .int .i64 b0, .slice l0 n0 c0] 208)
    clear hAl hB hbl
    go_wp2_with fail
    refine (cc0 _).mono ?_
    rintro e w2 ⟨rfl, hC⟩
    have hB2 := hB1.trans (hC.mono hB1.size)
    have hb2 := (hC.block _ (Array.getElem?_eq_some_iff.1 hb1).1).trans hb1
    have e4 : w2.cell? ⟨wr.heap.size, 0, none⟩ = some (.int .i64 x0) := (by rw [World.cell?_of_block (hC.block wr.heap.size (by simp))]; simp)
    clear hC hB1 hb1
    cases r0 with
    | false =>
      have HE : Hid (some (x0, 120) = Y) := HY
      go_wp2_with fail
      refine (cthrow_f x0 120 w2).mono ?_
      rintro e w3 ⟨⟨g, rfl, hg⟩, hC⟩
      go_wp2
      exact ⟨rfl, hB2.trans (hC.mono hB2.size), by rw [← HE.out]; exact ⟨_, rfl, hg⟩⟩
    | true =>
      go_wp2
      exact ⟨⟨1, by go_num, .inr (.inl ⟨rfl, trivial⟩), hB2, hb2⟩, by simp [intOf]⟩
  · have e0 : wr.cell? ⟨w.heap.size + 2, 4, none⟩ = some (.int .i64 x1) := (by rw [Lib.cell_of_heap hbl]; rfl)
    have e1 : wr.cell? ⟨w.heap.size + 2, 5, none⟩ = some (.int .i64 a1) := (by rw [Lib.cell_of_heap hbl]; rfl)
    have e2 : wr.cell? ⟨w.heap.size + 2, 6, none⟩ = some (.int .i64 b1) := (by rw [Lib.cell_of_heap hbl]; rfl)
    have e3 : wr.cell? ⟨w.heap.size + 2, 7, none⟩ = some (.slice l1 n1 c1) := (by rw [Lib.cell_of_heap hbl]; rfl)
    obtain ⟨hB1, hb1⟩ := hAl (.cells #[.int .i64 x1, .int .i64 a1, .int .i64 b1, .slice l1 n1 c1] 208)
    clear hAl hB hbl
    go_wp2_with fail
    refine (cc1 _).mono ?_
    rintro e w2 ⟨rfl, hC⟩
    have hB2 := hB1.trans (hC.mono hB1.size)
    have hb2 := (hC.block _ (Array.getElem?_eq_some_iff.1 hb1).1).trans hb1
    have e4 : w2.cell? ⟨wr.heap.size, 0, none⟩ = some (.int .i64 x1) := (by rw [World.cell?_of_block (hC.block wr.heap.size (by simp))]; simp)
    clear hC hB1 hb1
    cases r1 with
    | false =>
      have HE : Hid (some (x1, 120) = Y) := (by have := HY.out; rw [h0] at this; exact this)
      go_wp2_with fail
      refine (cthrow_f x1 120 w2).mono ?_
      rintro e w3 ⟨⟨g, rfl, hg⟩, hC⟩
      go_wp2
      exact ⟨rfl, hB2.trans (hC.mono hB2.size), by rw [← HE.out]; exact ⟨_, rfl, hg⟩⟩
    | true =>
      go_wp2
      exact ⟨⟨2, by go_num, .inr (.inr ⟨rfl, h0, trivial⟩), hB2, hb2⟩, by simp [intOf]⟩
  · have HY2 : Hid ((if z0 = true then some (x0, 2) else if z1 = true then some (x1, 2) else none) = Y) := (by have := HY.out; rw [h0, h1] at this; exact this)
    clear HY h0 h1 hAl cc0 cc1
    go_wp2
    go_loopw [27] (fun i wr => ∃ k : Nat, i = .int .i64 k ∧ (k = 0 ∨ k = 1 ∧ z0 = false ∨ k = 2 ∧ z0 = false ∧ z1 = false) ∧ Below w.heap.size w wr ∧ wr.heap[w.heap.size + 2]? = some (.cells #[.int .i64 x0, .int .i64 a0, .int .i64 b0, .slice l0 n0 c0, .int .i64 x1, .int .i64 a1, .int .i64 b1, .slice l1 n1 c1] 208)) (fun i _ => 2 - (intOf i).toNat)
    case atStart => exact ⟨0, by go_num, .inl rfl, hB, hbl⟩
    case round =>
    clear hB hbl
    obtain ⟨k, rfl, hk, hB, hbl⟩ := hrel
    have hAl : ∀ O, Below w.heap.size w (wr.alloc O) ∧ (wr.alloc O).heap[w.heap.size + 2]? = some (.cells #[.int .i64 x0, .int .i64 a0, .int .i64 b0, .slice l0 n0 c0, .int .i64 x1, .int .i64 a1, .int .i64 b1, .slice l1 n1 c1] 208) := fun O => ⟨hB.alloc hB.size _, (((Below.refl _ wr).alloc (Nat.le_refl _) O).block _ (Array.getElem?_eq_some_iff.1 hbl).1).trans hbl⟩
    rcases hk with rfl | ⟨rfl, h0⟩ | ⟨rfl, h0, h1⟩
    · have e0 : wr.cell? ⟨w.heap.size + 2, 0, none⟩ = some (.int .i64 x0) := (by rw [Lib.cell_of_heap hbl]; rfl)
      have e1 : wr.cell? ⟨w.heap.size + 2, 1, none⟩ = some (.int .i64 a0) := (by rw [Lib.cell_of_heap hbl]; rfl)
      have e2 : wr.cell? ⟨w.heap.size + 2, 2, none⟩ = some (.int .i64 b0) := (by rw [Lib.cell_of_heap hbl]; rfl)
      have e3 : wr.cell? ⟨w.heap.size + 2, 3, none⟩ = some (.slice l0 n0 c0) := (by rw [Lib.cell_of_heap hbl]; rfl)
      obtain ⟨hB1, hb1⟩ := hAl (.cells #[.int .i64 x0, .int .i64 a0, .int .i64 b0, .slice l0 n0 c0] 208)
      clear hAl hB hbl
      by_cases q1 : a0 = 0
      · have f1 : (a0 == 0) = true := beq_iff_eq.2 q1
        by_cases q2 : 0 < n0
        · have H : z0 = true := (by rw [← hz0, decide_eq_true q1, decide_eq_true q2]; rfl)
          have f2 : decide ((0 : Int) < (n0 : Int)) = true := decide_eq_true (by omega)
          have f3 : (0 : Int) < (n0 : Int) := by omega
          have HE : Hid (some (x0, 2) = Y) := (by have := HY2.out; rw [H] at this; exact this)
          clear q1 q2 hz0 hz1 H
          go_wp2_with fail
          refine (cthrow_f x0 2 _).mono ?_
          rintro e w3 ⟨⟨g, rfl, hg⟩, hC⟩
          go_wp2
          exact ⟨rfl, hB1.trans (hC.mono hB1.size), by rw [← HE.out]; exact ⟨_, rfl, hg⟩⟩
        · have H : z0 = false := (by rw [← hz0, decide_eq_true q1, decide_eq_false q2]; rfl)
          have f2 : decide ((0 : Int) < (n0 : Int)) = false := decide_eq_false (by omega)
          have f3 : ¬ (0 : Int) < (n0 : Int) := by omega
          have HN : Hid (z0 = false) := H
          clear q1 q2 hz0 hz1 H
          go_wp2
          have H := HN.out
          exact ⟨⟨1, by go_num, .inr (.inl ⟨rfl, H⟩), hB1, hb1⟩, by simp [intOf]⟩
      · have f1 : (a0 == 0) = false := beq_eq_false_iff_ne.2 q1
        have HN : Hid (z0 = false) := (by show _ = _; rw [← hz0, decide_eq_false q1, Bool.false_and])
        clear q1 hz0 hz1
        go_wp2
        have H := HN.out
        exact ⟨⟨1, by go_num, .inr (.inl ⟨rfl, H⟩), hB1, hb1⟩, by simp [intOf]⟩
    · have e0 : wr.cell? ⟨w.heap.size + 2, 4, none⟩ = some (.int .i64 x1) := (by rw [Lib.cell_of_heap hbl]; rfl)
      have e1 : wr.cell? ⟨w.heap.size + 2, 5, none⟩ = some (.int .i64 a1) := (by rw [Lib.cell_of_heap hbl]; rfl)
      have e2 : wr.cell? ⟨w.heap.size + 2, 6, none⟩ = some (.int .i64 b1) := (by rw [Lib.cell_of_heap hbl]; rfl)
      have e3 : wr.cell? ⟨w.heap.size + 2, 7, none⟩ = some (.slice l1 n1 c1) := (by rw [Lib.cell_of_heap hbl]; rfl)
      obtain ⟨hB1, hb1⟩ := hAl (.cells #[.int .i64 x1, .int .i64 a1, .int .i64 b1, .slice l1 n1 c1] 208)
      clear hAl hB hbl
      by_cases q1 : a1 = 0
      · have f1 : (a1 == 0) = true := beq_iff_eq.2 q1
        by_cases q2 : 0 < n1
        · have H : z1 = true := (by rw [← hz1, decide_eq_true q1, decide_eq_true q2]; rfl)
          have f2 : decide ((0 : Int) < (n1 : Int)) = true := decide_eq_true (by omega)
          have f3 : (0 : Int) < (n1 : Int) := by omega
          have HE : Hid (some (x1, 2) = Y) := (by have := HY2.out; rw [h0, H] at this; exact this)
          clear q1 q2 hz0 hz1 H
          go_wp2_with fail
          refine (cthrow_f x1 2 _).mono ?_
          rintro e w3 ⟨⟨g, rfl, hg⟩, hC⟩
          go_wp2
          exact ⟨rfl, hB1.trans (hC.mono hB1.size), by rw [← HE.out]; exact ⟨_, rfl, hg⟩⟩
        · have H : z1 = false := (by rw [← hz1, decide_eq_true q1, decide_eq_false q2]; rfl)
          have f2 : decide ((0 : Int) < (n1 : Int)) = false := decide_eq_false (by omega)
          have f3 : ¬ (0 : Int) < (n1 : Int) := by omega
          have HN : Hid (z1 = false) := H
          clear q1 q2 hz0 hz1 H
          go_wp2
          have H := HN.out
          exact ⟨⟨2, by go_num, .inr (.inr ⟨rfl, h0, H⟩), hB1, hb1⟩, by simp [intOf]⟩
      · have f1 : (a1 == 0) = false := beq_eq_false_iff_ne.2 q1
        have HN : Hid (z1 = false) := (by show _ = _; rw [← hz1, decide_eq_false q1, Bool.false_and])
        clear q1 hz0 hz1
        go_wp2
        have H := HN.out
        exact ⟨⟨2, by go_num, .inr (.inr ⟨rfl, h0, H⟩), hB1, hb1⟩, by simp [intOf]⟩
    · have HE : Hid (none = Y) := (by have := HY2.out; rw [h0, h1] at this; exact this)
      clear hz0 hz1 hAl
      go_wp2
      first
        | go_end0
        | refine bodyPost_ret (results_none rfl _ _ _) rfl ?_
        | refine bodyPost_end (results_none rfl _ _ _) rfl ?_
      exact ⟨hB, by rw [← HE.out]⟩
end Go.Proofs.YtgiojkhmkeocfaaGreatDoor

/- The code's reader of layer 15, walked: a side's range and lines; what is known of them. -/
set_option maxRecDepth 20000
namespace Go.Proofs.YtgiojkhmkeocfaaGreatDoor
open Go.RowKit

/-- a line with a range, as the code reads it -/
def rngC (e : UInt8) (p : Nat) (ls : List (List UInt8)) : Except (Nat × Int) ((Int × Int) × List (List UInt8)) :=
  match barP [e, e, e, 32] p ls with
  | .error x => .error x
  | .ok (s, r) => if Lib.hasSuffix s [32, e, e, e, e] = true then match nmC (s.take (s.length - 5)) with
    | none => .error (p + 1, 3)
    | some q => .ok (q, r) else .error (p + 1, 3)
theorem rng_bar (e : UInt8) (p : Nat) (ls : List (List UInt8)) : rngP e p ls = match rngC e p ls with
    | .error x => .error x
    | .ok (q, r) => .ok (sayC q, r) := by
  unfold rngP rngC barP
  cases nxt p ls with
  | error x => rfl
  | ok z =>
    obtain ⟨s, r⟩ := z
    dsimp only
    rw [inn_code]
    by_cases h1 : [e, e, e, 32].isPrefixOf s = true
    · rw [if_pos h1, if_pos h1]
      have e4 : ([e, e, e, 32] : List UInt8).length = 4 := rfl
      rw [e4]
      dsimp only
      by_cases h2 : Lib.hasSuffix (s.drop 4) [32, e, e, e, e] = true
      · rw [if_pos h2, if_pos h2]
        dsimp only
        rw [rng_code]
        cases nmC ((s.drop 4).take ((s.drop 4).length - 5)) <;> rfl
      · rw [if_neg h2, if_neg h2]
    · rw [if_neg h1, if_neg h1]
/-- a side with its range, as the code reads it -/
def sidX (e sg : UInt8) (p : Nat) (ls : List (List UInt8)) : Except (Nat × Int) ((Int × Int) × List Mk × Nat × List (List UInt8)) :=
  match rngC e p ls with
  | .error x => .error x
  | .ok (q, r) => match sdE sg (p + 1) r with
    | .error x => .error x
    | .ok (l, p1, r1) => .ok (q, l, p1, r1)
theorem rdC_stop {sg : UInt8} {p : Nat} {L : List (List UInt8)} (h : ∀ h : p < L.length, isSd sg L[p] = false) : rdC sg p (L.drop p) = .ok ([], p, L.drop p) := by
  by_cases hp : p < L.length
  · rw [List.drop_eq_getElem_cons hp]
    simp only [rdC]
    rw [if_neg (by rw [h hp]; decide)]
  · rw [List.drop_eq_nil_of_le (by omega)]
    simp only [rdC]
theorem rdC_go {sg : UInt8} {p : Nat} {L : List (List UInt8)} (hp : p < L.length) (h : isSd sg L[p] = true) (m : List Mk) : thenL m (rdC sg p (L.drop p)) = if fdB L[p] = true then thenL (m ++ [⟨((L[p].headD 0).toNat : Int), L[p].drop 2⟩]) (rdC sg (p + 1) (L.drop (p + 1))) else .error (p + 1, 3) := by
  rw [List.drop_eq_getElem_cons hp]
  simp only [rdC]
  rw [if_pos h]
  split
  · cases rdC sg (p + 1) (L.drop (p + 1)) with
    | error e => rfl
    | ok z => simp [thenL]
  · rfl
theorem nxt_at {p : Nat} {L : List (List UInt8)} (hp : p < L.length) : nxt p (L.drop p) = if fdB L[p] = true then .ok (L[p].dropLast, L.drop (p + 1)) else .error (p + 1, 3) := by
  rw [List.drop_eq_getElem_cons hp]
  rfl
/-- texts with their line feeds, none too long -/
def Fx (m : List Mk) : Prop := ∀ x ∈ m, fdB x.tx = true ∧ x.tx.length ≤ 1099511627776
theorem sd_form {sg : UInt8} {s : List UInt8} (h : isSd sg s = true) (hf : fdB s = true) : ∃ a b c t, s = a :: b :: c :: t ∧ fdB (c :: t) = true := by
  match s, h, hf with
  | [a, b], h, hf =>
    simp only [isSd, Bool.and_eq_true, beq_iff_eq] at h
    obtain ⟨_, rfl⟩ := h
    exact absurd hf (by simp [fdB])
  | a :: b :: c :: t, _, hf =>
    refine ⟨a, b, c, t, rfl, ?_⟩
    simpa [fdB] using hf

/-- a side's box, its lines, and the reader -/
structure Sxc (w : World) (R S : Nat) (vL : Value) (x a b : Int) (v : Value) (m : List Mk) (p : Nat) (u : World) : Prop where
  gr : w.grownBy u (some R)
  box : u.heap[S]? = some (.cells #[.int .i64 x, .int .i64 a, .int .i64 b, v] 208)
  own : u.ownsRow w.heap.size 103 2 v m.length (mkcells m)
  ck : Ck u R vL (p : Int)
  ge : w.heap.size ≤ S
  rl : R < w.heap.size
  nil : m = [] → v = .slice none 0 0
section
variable {w u u' : World} {R S : Nat} {vL v : Value} {x a b : Int} {m : List Mk} {p : Nat}
theorem Sxc.keep (h : Sxc w R S vL x a b v m p u) (hb : Below u.heap.size u u') : Sxc w R S vL x a b v m p u' := ⟨grown_two h.gr (low_grown hb _), (hb.block S (Array.getElem?_eq_some_iff.1 h.box).1).trans h.box, owns_keep h.own hb, h.ck.low hb, h.ge, h.rl, h.nil⟩
theorem Sxc.cells (h : Sxc w R S vL x a b v m p u) : u.cell? ⟨S, 0, none⟩ = some (.int .i64 x) ∧ u.cell? ⟨S, 1, none⟩ = some (.int .i64 a) ∧ u.cell? ⟨S, 2, none⟩ = some (.int .i64 b) ∧ u.cell? ⟨S, 3, none⟩ = some v := by
  refine ⟨?_, ?_, ?_, ?_⟩ <;> rw [Lib.cell_of_heap h.box] <;> rfl
theorem Sxc.frozen (h : Sxc w R S vL x a b v m p u) (j : Nat) : u.frozen? ⟨S, j, none⟩ = false := Lib.frozen_of_heap h.box j
theorem Sxc.ne (h : Sxc w R S vL x a b v m p u) : R ≠ S := by have h1 := h.ge; have h2 := h.rl; omega
/-- the reader goes on -/
theorem Sxc.next (h : Sxc w R S vL x a b v m p u) : Sxc w R S vL x a b v m (p + 1) (u.setCell ⟨R, 1, none⟩ (.int .i64 ((p : Int) + 1))) := by
  have hg := grown_set u R 1 (.int .i64 ((p : Int) + 1))
  exact ⟨grown_two h.gr hg, (hg.block S (Array.getElem?_eq_some_iff.1 h.box).1 (fun e => h.ne (Option.some.inj e).symm)).trans h.box, owns_fr h.own hg h.rl, by have := h.ck.at ((p : Int) + 1); simpa using this, h.ge, h.rl, h.nil⟩
/-- one line more -/
theorem Sxc.more (h : Sxc w R S vL x a b v m p u) {y : Mk} {v' : Value} {n : Nat} (hg : u.grownBy u' v.ownBlock) (ho : u'.ownsRow w.heap.size 103 2 v' n (mkcells (m ++ [y]))) (hn : n = (m ++ [y]).length) : Sxc w R S vL x a b v' (m ++ [y]) p (u'.setCell ⟨S, 3, none⟩ v') ∧ u'.heap[S]? = some (.cells #[.int .i64 x, .int .i64 a, .int .i64 b, v] 208) := by
  subst hn
  have hb : u'.heap[S]? = some (.cells #[.int .i64 x, .int .i64 a, .int .i64 b, v] 208) := (hg.block S (Array.getElem?_eq_some_iff.1 h.box).1 (fun e => own_box2 h.own h.box (by decide) e.symm)).trans h.box
  have hgR : w.grownBy u' (some R) := ⟨hg.os.trans h.gr.os, hg.tape.trans h.gr.tape, hg.output.trans h.gr.output, Nat.le_trans h.gr.size hg.size, fun k h1 h2 => (hg.block k (Nat.lt_of_lt_of_le h1 h.gr.size) (fun e => by have := owns_ge h.own e.symm; omega)).trans (h.gr.block k h1 h2)⟩
  have hg2 := grown_set u' S 3 v'
  have hck : Ck u' R vL (p : Int) := h.ck.keep hg (fun e => by have := owns_ge h.own e.symm; have := h.rl; omega)
  refine ⟨⟨⟨hg2.os.trans hgR.os, hg2.tape.trans hgR.tape, hg2.output.trans hgR.output, Nat.le_trans hgR.size hg2.size, fun k h1 h2 => (hg2.block k (Nat.lt_of_lt_of_le h1 hgR.size) (fun e => by cases e; have := h.ge; omega)).trans (hgR.block k h1 h2)⟩, heap_setCell_same u' S 3 _ _ v' hb, ?_, hck.keep hg2 (fun e => h.ne (Option.some.inj e)), h.ge, h.rl, fun e => by simp at e⟩, hb⟩
  refine ⟨ho.1, ?_⟩
  rcases ho.2 with q | ⟨g, cap, cur, rfl, q2, q3, q4⟩
  · exact .inl q
  · refine .inr ⟨g, cap, cur, rfl, q2, ?_, q4⟩
    rw [hg2.block g (Array.getElem?_eq_some_iff.1 q3).1 (fun e => by
      cases e
      rw [hb] at q3
      simp at q3)]
    exact q3
end
/-- what a side leaves behind -/
def SdX (R : Nat) (vL : Value) (p : Nat) (X : Except (Nat × Int) ((Int × Int) × List Mk × Nat × List (List UInt8))) (w : World) (e : Ending) (w' : World) : Prop :=
  match X with
  | .error (a, z) => Thr (a : Int) z e w' ∧ w.grownBy w' (some R)
  | .ok (q, l, p1, _) => ∃ v', e = .returned (.agg #[.int .i64 ((p : Int) + 1), .int .i64 q.1, .int .i64 q.2, v']) ∧ w'.ownsRow w.heap.size 103 2 v' l.length (mkcells l) ∧ (l = [] → v' = .slice none 0 0) ∧ Ck w' R vL (p1 : Int) ∧ w.grownBy w' (some R)
end Go.Proofs.YtgiojkhmkeocfaaGreatDoor
