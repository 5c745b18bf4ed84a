/-
  For every list of numbers of at most 1048576 values, and every number, the law EditsBack returns true and leaves its arguments as they were: edits.Make and edits.Keep undo one another, edits.Invert goes back and twice it is the script, and edits.Cost is what is taken out and put in. The condition is the statement's own bound on what comes in; nothing else is asked.
-/
import Derived.Test.YtoacmaloiaeniaaPartE1
import Derived.Test.YtoacmaloiaeniaaPartG1
import Derived.Test.YtoacmaloiaeniaaPartA1
namespace Go.Proofs.Ytoacmaloiaeniaa.editsBack
open Go.ChangeShapes Go.WideShapes Go.ChangeAt Go.RowKit

def q300 (z : Int) : Int := (IntKind.u64.wrap z).tmod 300
theorem q300_range (z : Int) : 0 ≤ q300 z ∧ q300 z ≤ 299 := by
  have h : 0 ≤ IntKind.u64.wrap z := by rw [IntKind.wrap_u64]; omega
  unfold q300
  rw [Int.tmod_eq_emod_of_nonneg h]
  omega
theorem take_step (K : List Int) (k : Nat) (hk : k < K.length) : (keptR 0 (K.take (k + 1))).length = (keptR 0 (K.take k)).length + (if K[k] = -1 then 0 else 1) := by
  rw [List.take_succ_eq_append_getElem hk, keptR_append, List.length_append, keptR]
  split <;> simp [keptR]
theorem Right.count {f : Bool} {a b n m : Int} {l : List Ch} (h : Right f a b n m l) : (l.length : Int) ≤ (n - a) + (m - b) := by
  induction l generalizing f a b with
  | nil => have := h.le; simp; omega
  | cons c l ih =>
    obtain ⟨⟨h1, h2, h3, h4⟩, h5⟩ := h
    rw [numB_iff] at h1
    have := ih h5
    simp only [List.length_cons]
    omega
theorem _root_.Go.Proofs.Ytoacmaloiaeniaa.Script.len {n m : Int} {l : List Ch} (h : Script l n m) : (l.length : Int) ≤ n + m := by
  have := Right.count h.2.2
  omega
theorem taken_range (K : List Int) : 0 ≤ takenL K ∧ takenL K ≤ K.length := by
  induction K with
  | nil => simp [takenL]
  | cons z t ih => rw [takenL]; simp only [List.length_cons]; split <;> omega
/-- what the two ways tell of one another -/
structure Ways (R back : List Int) (X Y : List Ch) (m : Int) : Prop where
  vk : Vk 0 m R
  mx : mkL R m = X
  sx : Script X R.length m
  kx : keepL X R.length m = R
  iv : invL X = Y
  sy : Script Y m R.length
  ky : keepL Y m R.length = back
  bl : (back.length : Int) = m
  vi : invL Y = X
  cy : costF 0 Y = costF 0 X
  cx : costF 0 X = R.length + m - 2 * (R.length - takenL R)
  bk : ∀ (k : Nat) (h : k < R.length), 0 ≤ R[k] → R[k] < m ∧ back[R[k].toNat]? = some (k : Int)
  re : ∀ z ∈ R, z = -1 ∨ 0 ≤ z
  be : ∀ z ∈ back, z = -1 ∨ 0 ≤ z
  kl : (keptR 0 back).length = (keptR 0 R).length
theorem ways (l : List Int) (m : Int) (h0 : 0 ≤ m) (hm : m ≤ 299) (hl : l.length ≤ 300) : ∃ back X Y, Ways (keptK m 0 l) back X Y m := by
  obtain ⟨R, hR⟩ : ∃ R, keptK m 0 l = R := ⟨_, rfl⟩
  have hv : Vk 0 m R := by rw [← hR]; exact keptK_vk (Int.le_refl _)
  have hRl : R.length ≤ 300 := by rw [← hR, keptK_length]; exact hl
  rw [hR]
  obtain ⟨sx, ux⟩ := mk_script hv h0 (by omega) (by omega)
  have hre := hv.each (Int.le_refl _)
  have kx : keepL (mkL R m) R.length m = R := by
    refine kept_inj (i := 0) ?_ ?_
    · have := kr_length sx.2.2
      show (kr 0 0 R.length m (mkL R m)).length = _
      omega
    · exact (kr_kept sx.2.2 (Int.le_refl _)).trans ux
  have sy := sx.inv
  have uy := U_inv sx.2.2
  have hky := kr_kept sy.2.2 (Int.le_refl _)
  have hul : (U 0 0 m R.length (invL (mkL R m))).length = (keptR 0 R).length := by rw [uy, List.length_map, ux]
  have c1 := cost_script sx (by omega)
  have c2 := cost_script sy (by omega)
  rw [ux] at c1
  rw [hul] at c2
  have ht := taken_kept (i := 0) hre
  refine ⟨keepL (invL (mkL R m)) m R.length, mkL R m, invL (mkL R m), hv, rfl, sx, kx, rfl, sy, rfl, ?_, invL_invL _, by omega, by omega, ?_, hre, ?_, ?_⟩
  · have := kr_length sy.2.2
    show ((kr 0 0 m R.length (invL (mkL R m))).length : Int) = m
    omega
  · intro k hk hz
    have hmem : (⟨(k : Int), R[k], 1⟩ : Rn) ∈ keptR 0 R := by
      rw [mem_keptR]
      refine ⟨rfl, by dsimp only; omega, ?_, by dsimp only; omega⟩
      dsimp only
      rw [show ((k : Int) - 0).toNat = k by omega, List.getElem?_eq_getElem hk]
    rw [← ux] at hmem
    have hb := sx.2.2.bounds _ hmem
    have hm2 : sw ⟨(k : Int), R[k], 1⟩ ∈ U 0 0 m R.length (invL (mkL R m)) := by rw [uy]; exact List.mem_map_of_mem hmem
    rw [← hky, mem_keptR] at hm2
    have h3 := hm2.2.2.1
    simp only [sw, Int.sub_zero] at h3
    exact ⟨hb.2.2.2.2, h3⟩
  · intro z hz
    have := kr_each sy.2.2 (Int.le_refl _) z hz
    omega
  · have : (keptR 0 (kr 0 0 m R.length (invL (mkL R m)))).length = (keptR 0 R).length := by rw [hky, hul]
    exact this

set_option maxRecDepth 10000 in
set_option maxHeartbeats 4000000 in
theorem walk (l : List Int) (m : Int) (v : Value) (w : World) (hlen : l.length ≤ 1048576) (_hm : -9223372036854775808 ≤ m ∧ m ≤ 9223372036854775807) (hl : HI w v l) :
    Calls Try.prog 6 #[v, .int .i64 m] w fun e w' => e = .returned (.bool true) ∧ Below w.heap.size w w' := by
  obtain ⟨ao, ca, rfl⟩ := Holds.form hl
  have hq : (IntKind.u64.wrap m).tmod 300 = q300 m := rfl
  obtain ⟨m0, m1⟩ := q300_range m
  obtain ⟨M, hM⟩ : ∃ M, q300 m = M := ⟨_, rfl⟩
  rw [hM] at hq m0 m1
  clear hM
  have hw64 : wrap64 M = M := by unfold wrap64; omega
  have key : (300 < (l.length : Int) ∧ ∃ ao' ca', (∀ u : World, (Instr.slice 26 (.slice ao l.length ca) none (some (.int .i64 300)) none).run Try.prog u = .ok (.slice ao' 300 ca') u) ∧ ∃ L1, L1.length = 300 ∧ HI w (.slice ao' L1.length ca') L1) ∨ (l.length : Int) ≤ 300 := by
    by_cases h : (l.length : Int) ≤ 300
    · exact .inr h
    · left
      refine ⟨by omega, ?_⟩
      rcases hl with ⟨_, h3, _⟩ | ⟨ad, c, he, h3, hc⟩
      · omega
      · cases he
        refine ⟨some ad, ca, fun u => ?_, l.take 300, by simp; omega, ?_⟩
        · rw [run_slice_h (P := Try.prog) u 26 (some ad) l.length ca (by kernel_rfl) .i64 300 (by omega) (by omega)]
          have : (sizeOf (Try.prog.elem 26)).run Try.prog u = .ok 1 u := by kernel_rfl
          rw [this]
          obtain ⟨b, off, rfl⟩ := addr_of (hc 0 _ (List.getElem?_eq_getElem (by rw [icells_length]; omega)))
          simp only [Result.andThen, sliced, Option.map_some, add_none]
          simp
        · refine .inr ⟨ad, ca, rfl, by simp; omega, fun j u hj => hc j u ?_⟩
          simp only [icells, List.getElem?_map, List.getElem?_take] at hj ⊢
          split at hj
          · exact hj
          · simp at hj
  rcases key with ⟨h300, ao', ca', hsl, L1, hL1, hl1w⟩ | h300
  · have hL1b : L1.length ≤ 300 := by omega
    rw [hL1] at hl1w
    clear hL1
    obtain ⟨back, X, Y, W⟩ := ways L1 M m0 m1 (by omega)
    obtain ⟨R, hR⟩ : ∃ R, keptK M 0 L1 = R := ⟨_, rfl⟩
    rw [hR] at W
    have hRl : R.length ≤ 300 := by rw [← hR, keptK_length]; omega
    have HR : Hid (keptK M 0 L1 = R) := hR
    have HW : Hid (Ways R back X Y M) := W
    have hXl : X.length ≤ 1048576 := by have := W.sx.len; omega
    have hYl : Y.length ≤ 1048576 := by have := W.sy.len; omega
    obtain ⟨cst, hcst⟩ : ∃ c, costF 0 X = c := ⟨_, rfl⟩
    have HCX : Hid (costF 0 X = cst) := hcst
    have HCY : Hid (costF 0 Y = cst) := W.cy.trans hcst
    obtain ⟨tk, htk⟩ : ∃ t, takenL R = t := ⟨_, rfl⟩
    have HTK : Hid (takenL R = tk) := htk
    have HCT : Hid (cst = R.length + M - 2 * (R.length - tk)) := (by show _ = _; rw [← hcst, ← htk]; exact W.cx)
    have htr : 0 ≤ tk ∧ tk ≤ R.length := by rw [← htk]; exact taken_range R
    have HBL : Hid ((back.length : Int) = M) := W.bl
    clear hR W hcst htk
    go_enter Try.func6, Try.ntmps6
    go_wp2_with fail
    refine (works_any w).mono ?_
    rintro e w1 ⟨rfl, hB1⟩
    have hl1 := HI.keep hl1w hB1 (Nat.le_refl _)
    have hsz1 := hB1.size
    go_wp2_with fail
    refine (Kept_f L1 R M _ w1 hl1 (by omega) (by omega) HR).mono ?_
    rintro e w2 ⟨v2, rfl, hown2, hB2⟩
    have hk2 : HI w2 v2 R := holds_of hown2
    obtain ⟨ko, kc, rfl⟩ := Holds.form hk2
    have hB02 := hB1.trans (hB2.mono hsz1)
    clear hown2 hB1 hB2 hl1
    go_wp2_with fail
    refine (Make_f R M X _ w2 hk2 (by omega) HW.out.vk m0 (by omega) HW.out.mx).mono ?_
    rintro e w3 ⟨v3, rfl, hx3, hB3⟩
    obtain ⟨xo, xc, rfl⟩ := Holds.form hx3
    have hk3 := HI.keep hk2 hB3 (Nat.le_refl _)
    have hB03 := hB02.trans (hB3.mono hB02.size)
    clear hB02 hB3 hk2
    go_wp2_with fail
    refine (Check_f X R.length M 0 _ w3 hx3 (by omega) (by omega) (by omega) (chk_ok HW.out.sx)).mono ?_
    rintro e w4 ⟨rfl, hB4⟩
    have hk4 := HI.keep hk3 hB4 (Nat.le_refl _)
    have hx4 := HCh.keep hx3 hB4 (Nat.le_refl _)
    have hB04 := hB03.trans (hB4.mono hB03.size)
    clear hB03 hB4 hk3 hx3
    go_wp2_with fail
    refine (Keep_ok X R.length M _ w4 hx4 HW.out.sx (by omega) (by omega) hXl).mono ?_
    rintro e w5 ⟨v5, rfl, hy5, hB5⟩
    rw [HW.out.kx] at hy5
    obtain ⟨yo, yc, rfl⟩ := Holds.form hy5
    have hk5 := HI.keep hk4 hB5 (Nat.le_refl _)
    have hx5 := HCh.keep hx4 hB5 (Nat.le_refl _)
    have hB05 := hB04.trans (hB5.mono hB04.size)
    clear hB04 hB5 hk4 hx4
    go_wp2_with fail
    refine (SameI_any _ _ R w5 (by omega) hy5 hk5).mono ?_
    rintro e w6 ⟨rfl, hB6⟩
    have hk6 := HI.keep hk5 hB6 (Nat.le_refl _)
    have hx6 := HCh.keep hx5 hB6 (Nat.le_refl _)
    have hB06 := hB05.trans (hB6.mono hB05.size)
    clear hB05 hB6 hk5 hx5 hy5
    go_wp2_with fail
    refine (Invert_f X Y _ w6 hx6 hXl HW.out.iv).mono ?_
    rintro e w7 ⟨v7, rfl, hi7, hB7⟩
    obtain ⟨io, ic, rfl⟩ := Holds.form hi7
    have hk7 := HI.keep hk6 hB7 (Nat.le_refl _)
    have hx7 := HCh.keep hx6 hB7 (Nat.le_refl _)
    have hB07 := hB06.trans (hB7.mono hB06.size)
    clear hB06 hB7 hk6 hx6
    go_wp2_with fail
    refine (Keep_ok Y M R.length _ w7 hi7 HW.out.sy (by omega) (by omega) hYl).mono ?_
    rintro e w8 ⟨v8, rfl, hb8, hB8⟩
    rw [HW.out.ky] at hb8
    obtain ⟨bo, bc, rfl⟩ := Holds.form hb8
    have hk8 := HI.keep hk7 hB8 (Nat.le_refl _)
    have hx8 := HCh.keep hx7 hB8 (Nat.le_refl _)
    have hi8 := HCh.keep hi7 hB8 (Nat.le_refl _)
    have hB08 := hB07.trans (hB8.mono hB07.size)
    clear hB07 hB8 hk7 hx7 hi7
    go_wp2_with fail
    refine (Invert_f Y X _ w8 hi8 hYl HW.out.vi).mono ?_
    rintro e w9 ⟨v9, rfl, hj9, hB9⟩
    obtain ⟨jo, jc, rfl⟩ := Holds.form hj9
    have hk9 := HI.keep hk8 hB9 (Nat.le_refl _)
    have hx9 := HCh.keep hx8 hB9 (Nat.le_refl _)
    have hi9 := HCh.keep hi8 hB9 (Nat.le_refl _)
    have hb9 := HI.keep hb8 hB9 (Nat.le_refl _)
    have hB09 := hB08.trans (hB9.mono hB08.size)
    clear hB08 hB9 hk8 hx8 hi8 hb8
    go_wp2_with fail
    refine (SameC_any _ _ X w9 (by omega) hj9 hx9).mono ?_
    rintro e wa ⟨rfl, hBa⟩
    have hka := HI.keep hk9 hBa (Nat.le_refl _)
    have hxa := HCh.keep hx9 hBa (Nat.le_refl _)
    have hia := HCh.keep hi9 hBa (Nat.le_refl _)
    have hba := HI.keep hb9 hBa (Nat.le_refl _)
    have hB0a := hB09.trans (hBa.mono hB09.size)
    clear hB09 hBa hk9 hx9 hi9 hb9 hj9
    go_wp2_with fail
    refine (Cost_f Y cst _ wa hia (by omega) HCY).mono ?_
    rintro e wb ⟨rfl, hBb⟩
    have hkb := HI.keep hka hBb (Nat.le_refl _)
    have hxb := HCh.keep hxa hBb (Nat.le_refl _)
    have hbb := HI.keep hba hBb (Nat.le_refl _)
    have hB0b := hB0a.trans (hBb.mono hB0a.size)
    clear hB0a hBb hka hxa hia hba
    go_wp2_with fail
    refine (Cost_f X cst _ wb hxb (by omega) HCX).mono ?_
    rintro e wc ⟨rfl, hBc⟩
    have hkc := HI.keep hkb hBc (Nat.le_refl _)
    have hxc := HCh.keep hxb hBc (Nat.le_refl _)
    have hbc := HI.keep hbb hBc (Nat.le_refl _)
    have hB0c := hB0b.trans (hBc.mono hB0b.size)
    clear hB0b hBc hkb hxb hbb
    go_wp2
    go_loopw [11, 12] (fun pv iv wr => ∃ k : Nat, k ≤ R.length ∧ pv = .int .i64 ((keptR 0 (R.take k)).length : Int) ∧ iv = .int .i64 k ∧ wr = wc) (fun _ iv _ => R.length - (intOf iv).toNat)
    case atStart => exact ⟨0, Nat.zero_le _, rfl, rfl, rfl⟩
    case round =>
      obtain ⟨k, hk, rfl, rfl, rfl⟩ := hrel
      have hpl := kept_len 0 (R.take k)
      have hpl2 : (R.take k).length ≤ k := by simp; omega
      by_cases hlt : k < R.length
      · obtain ⟨b1, o1, rfl, _, hc1⟩ := HI.at hkc (by omega)
        have c0 := hc1 k hlt
        have hstep := take_step R k hlt
        have hbk := HW.out.bk k hlt
        have hz1 := HW.out.re R[k] (List.getElem_mem _)
        obtain ⟨z, hzd⟩ : ∃ z, R[k] = z := ⟨_, rfl⟩
        rw [hzd] at c0 hstep hbk hz1
        obtain ⟨P, hP⟩ : ∃ P, (keptR 0 (R.take k)).length = P := ⟨_, rfl⟩
        rw [hP] at hstep hpl ⊢
        clear hc1 hzd hP
        have i1 : 0 ≤ (k : Int) := by omega
        have i2 : (k : Int) < (R.length : Int) := by omega
        by_cases hz : z < 0
        · rw [if_pos (by omega)] at hstep
          have HS : Hid ((keptR 0 (R.take (k + 1))).length = P) := (by show _ = _; omega)
          clear hstep hbk
          go_wp2
          go_roundw
          case rel => exact ⟨k + 1, by omega, by rw [HS.out], by go_num, trivial⟩
          case measure => simp [intOf]; omega
        · rw [if_neg (by omega)] at hstep
          have HS : Hid ((keptR 0 (R.take (k + 1))).length = P + 1) := hstep
          obtain ⟨hzm, hbz⟩ := hbk (by omega)
          obtain ⟨zn, rfl⟩ : ∃ zn : Nat, z = (zn : Int) := ⟨z.toNat, by omega⟩
          rw [Int.toNat_natCast] at hbz
          have hzb : zn < back.length := by have := HBL.out; omega
          obtain ⟨b2, o2, rfl, _, hc2⟩ := HI.at hbc (by omega)
          have c1 := hc2 zn hzb
          rw [List.getElem?_eq_getElem hzb, Option.some_inj] at hbz
          rw [hbz] at c1
          clear hstep hbk hc2 hbz
          have j1 : 0 ≤ (zn : Int) := by omega
          have j2 : (zn : Int) < (back.length : Int) := by omega
          go_wp2
          go_roundw
          case rel => exact ⟨k + 1, by omega, by rw [HS.out]; go_num, by go_num, trivial⟩
          case measure => simp [intOf]; omega
      · obtain rfl : k = R.length := by omega
        rw [List.take_of_length_le (Nat.le_refl _)] at hpl ⊢
        obtain ⟨T, hT⟩ : ∃ T, (keptR 0 R).length = T := ⟨_, rfl⟩
        have HT : Hid ((keptR 0 back).length = T) := (by show _ = _; rw [HW.out.kl, hT])
        rw [hT] at hpl ⊢
        clear hT hpl2
        have hbl2 : back.length ≤ 299 := by have := HBL.out; omega
        go_wp2
        go_loopw [11, 13] (fun pv iv wz => ∃ k : Nat, k ≤ back.length ∧ pv = .int .i64 ((T : Int) - ((keptR 0 (back.take k)).length : Int)) ∧ iv = .int .i64 k ∧ wz = wr) (fun _ iv _ => back.length - (intOf iv).toNat)
        case atStart => exact ⟨0, Nat.zero_le _, by simp [keptR], rfl, rfl⟩
        case round =>
          obtain ⟨k, hk, rfl, rfl, rfl⟩ := hrel
          have hpl' := kept_len 0 (back.take k)
          have hpl2 : (back.take k).length ≤ k := by simp; omega
          by_cases hlt : k < back.length
          · obtain ⟨b1, o1, rfl, _, hc1⟩ := HI.at hbc (by omega)
            have c0 := hc1 k hlt
            have hstep := take_step back k hlt
            have hz1 := HW.out.be back[k] (List.getElem_mem _)
            obtain ⟨z, hzd⟩ : ∃ z, back[k] = z := ⟨_, rfl⟩
            rw [hzd] at c0 hstep hz1
            obtain ⟨P, hP⟩ : ∃ P, (keptR 0 (back.take k)).length = P := ⟨_, rfl⟩
            rw [hP] at hstep hpl' ⊢
            clear hc1 hzd hP
            have i1 : 0 ≤ (k : Int) := by omega
            have i2 : (k : Int) < (back.length : Int) := by omega
            have i3 : (k : Int) < M := by have := HBL.out; omega
            by_cases hz : z < 0
            · rw [if_pos (by omega)] at hstep
              have HS : Hid ((keptR 0 (back.take (k + 1))).length = P) := (by show _ = _; omega)
              clear hstep
              go_wp2
              go_roundw
              case rel => exact ⟨k + 1, by omega, by rw [HS.out], by go_num, trivial⟩
              case measure => simp [intOf]; omega
            · rw [if_neg (by omega)] at hstep
              have HS : Hid ((keptR 0 (back.take (k + 1))).length = P + 1) := hstep
              clear hstep
              go_wp2
              go_roundw
              case rel => exact ⟨k + 1, by omega, by rw [HS.out]; go_num, by go_num, trivial⟩
              case measure => simp [intOf]; omega
          · obtain rfl : k = back.length := by omega
            rw [List.take_of_length_le (Nat.le_refl _), HT.out]
            clear hpl' hpl2
            have i3 : M ≤ ((back.length : Nat) : Int) := by have := HBL.out; omega
            go_wp2_with fail
            refine (Cost_f X cst _ _ hxc (by omega) HCX).mono ?_
            rintro e wd ⟨rfl, hBd⟩
            have hkd := HI.keep hkc hBd (Nat.le_refl _)
            go_wp2_with fail
            refine (taken_f R tk _ wd hkd (by omega) HTK).mono ?_
            rintro e we ⟨rfl, hBe⟩
            have hfin := HCT.out
            subst hfin
            go_wp2
            go_ret
            exact ⟨rfl, hB0c.trans ((hBd.trans (hBe.mono hBd.size)).mono hB0c.size)⟩
  · obtain ⟨back, X, Y, W⟩ := ways l M m0 m1 (by omega)
    obtain ⟨R, hR⟩ : ∃ R, keptK M 0 l = R := ⟨_, rfl⟩
    rw [hR] at W
    have hRl : R.length ≤ 300 := by rw [← hR, keptK_length]; omega
    have HR : Hid (keptK M 0 l = R) := hR
    have HW : Hid (Ways R back X Y M) := W
    have hXl : X.length ≤ 1048576 := by have := W.sx.len; omega
    have hYl : Y.length ≤ 1048576 := by have := W.sy.len; omega
    obtain ⟨cst, hcst⟩ : ∃ c, costF 0 X = c := ⟨_, rfl⟩
    have HCX : Hid (costF 0 X = cst) := hcst
    have HCY : Hid (costF 0 Y = cst) := W.cy.trans hcst
    obtain ⟨tk, htk⟩ : ∃ t, takenL R = t := ⟨_, rfl⟩
    have HTK : Hid (takenL R = tk) := htk
    have HCT : Hid (cst = R.length + M - 2 * (R.length - tk)) := (by show _ = _; rw [← hcst, ← htk]; exact W.cx)
    have htr : 0 ≤ tk ∧ tk ≤ R.length := by rw [← htk]; exact taken_range R
    have HBL : Hid ((back.length : Int) = M) := W.bl
    clear hR W hcst htk
    go_enter Try.func6, Try.ntmps6
    go_wp2_with fail
    refine (works_any w).mono ?_
    rintro e w1 ⟨rfl, hB1⟩
    have hl1 := HI.keep hl hB1 (Nat.le_refl _)
    have hsz1 := hB1.size
    go_wp2_with fail
    refine (Kept_f l R M _ w1 hl1 (by omega) (by omega) HR).mono ?_
    rintro e w2 ⟨v2, rfl, hown2, hB2⟩
    have hk2 : HI w2 v2 R := holds_of hown2
    obtain ⟨ko, kc, rfl⟩ := Holds.form hk2
    have hB02 := hB1.trans (hB2.mono hsz1)
    clear hown2 hB1 hB2 hl1
    go_wp2_with fail
    refine (Make_f R M X _ w2 hk2 (by omega) HW.out.vk m0 (by omega) HW.out.mx).mono ?_
    rintro e w3 ⟨v3, rfl, hx3, hB3⟩
    obtain ⟨xo, xc, rfl⟩ := Holds.form hx3
    have hk3 := HI.keep hk2 hB3 (Nat.le_refl _)
    have hB03 := hB02.trans (hB3.mono hB02.size)
    clear hB02 hB3 hk2
    go_wp2_with fail
    refine (Check_f X R.length M 0 _ w3 hx3 (by omega) (by omega) (by omega) (chk_ok HW.out.sx)).mono ?_
    rintro e w4 ⟨rfl, hB4⟩
    have hk4 := HI.keep hk3 hB4 (Nat.le_refl _)
    have hx4 := HCh.keep hx3 hB4 (Nat.le_refl _)
    have hB04 := hB03.trans (hB4.mono hB03.size)
    clear hB03 hB4 hk3 hx3
    go_wp2_with fail
    refine (Keep_ok X R.length M _ w4 hx4 HW.out.sx (by omega) (by omega) hXl).mono ?_
    rintro e w5 ⟨v5, rfl, hy5, hB5⟩
    rw [HW.out.kx] at hy5
    obtain ⟨yo, yc, rfl⟩ := Holds.form hy5
    have hk5 := HI.keep hk4 hB5 (Nat.le_refl _)
    have hx5 := HCh.keep hx4 hB5 (Nat.le_refl _)
    have hB05 := hB04.trans (hB5.mono hB04.size)
    clear hB04 hB5 hk4 hx4
    go_wp2_with fail
    refine (SameI_any _ _ R w5 (by omega) hy5 hk5).mono ?_
    rintro e w6 ⟨rfl, hB6⟩
    have hk6 := HI.keep hk5 hB6 (Nat.le_refl _)
    have hx6 := HCh.keep hx5 hB6 (Nat.le_refl _)
    have hB06 := hB05.trans (hB6.mono hB05.size)
    clear hB05 hB6 hk5 hx5 hy5
    go_wp2_with fail
    refine (Invert_f X Y _ w6 hx6 hXl HW.out.iv).mono ?_
    rintro e w7 ⟨v7, rfl, hi7, hB7⟩
    obtain ⟨io, ic, rfl⟩ := Holds.form hi7
    have hk7 := HI.keep hk6 hB7 (Nat.le_refl _)
    have hx7 := HCh.keep hx6 hB7 (Nat.le_refl _)
    have hB07 := hB06.trans (hB7.mono hB06.size)
    clear hB06 hB7 hk6 hx6
    go_wp2_with fail
    refine (Keep_ok Y M R.length _ w7 hi7 HW.out.sy (by omega) (by omega) hYl).mono ?_
    rintro e w8 ⟨v8, rfl, hb8, hB8⟩
    rw [HW.out.ky] at hb8
    obtain ⟨bo, bc, rfl⟩ := Holds.form hb8
    have hk8 := HI.keep hk7 hB8 (Nat.le_refl _)
    have hx8 := HCh.keep hx7 hB8 (Nat.le_refl _)
    have hi8 := HCh.keep hi7 hB8 (Nat.le_refl _)
    have hB08 := hB07.trans (hB8.mono hB07.size)
    clear hB07 hB8 hk7 hx7 hi7
    go_wp2_with fail
    refine (Invert_f Y X _ w8 hi8 hYl HW.out.vi).mono ?_
    rintro e w9 ⟨v9, rfl, hj9, hB9⟩
    obtain ⟨jo, jc, rfl⟩ := Holds.form hj9
    have hk9 := HI.keep hk8 hB9 (Nat.le_refl _)
    have hx9 := HCh.keep hx8 hB9 (Nat.le_refl _)
    have hi9 := HCh.keep hi8 hB9 (Nat.le_refl _)
    have hb9 := HI.keep hb8 hB9 (Nat.le_refl _)
    have hB09 := hB08.trans (hB9.mono hB08.size)
    clear hB08 hB9 hk8 hx8 hi8 hb8
    go_wp2_with fail
    refine (SameC_any _ _ X w9 (by omega) hj9 hx9).mono ?_
    rintro e wa ⟨rfl, hBa⟩
    have hka := HI.keep hk9 hBa (Nat.le_refl _)
    have hxa := HCh.keep hx9 hBa (Nat.le_refl _)
    have hia := HCh.keep hi9 hBa (Nat.le_refl _)
    have hba := HI.keep hb9 hBa (Nat.le_refl _)
    have hB0a := hB09.trans (hBa.mono hB09.size)
    clear hB09 hBa hk9 hx9 hi9 hb9 hj9
    go_wp2_with fail
    refine (Cost_f Y cst _ wa hia (by omega) HCY).mono ?_
    rintro e wb ⟨rfl, hBb⟩
    have hkb := HI.keep hka hBb (Nat.le_refl _)
    have hxb := HCh.keep hxa hBb (Nat.le_refl _)
    have hbb := HI.keep hba hBb (Nat.le_refl _)
    have hB0b := hB0a.trans (hBb.mono hB0a.size)
    clear hB0a hBb hka hxa hia hba
    go_wp2_with fail
    refine (Cost_f X cst _ wb hxb (by omega) HCX).mono ?_
    rintro e wc ⟨rfl, hBc⟩
    have hkc := HI.keep hkb hBc (Nat.le_refl _)
    have hxc := HCh.keep hxb hBc (Nat.le_refl _)
    have hbc := HI.keep hbb hBc (Nat.le_refl _)
    have hB0c := hB0b.trans (hBc.mono hB0b.size)
    clear hB0b hBc hkb hxb hbb
    go_wp2
    go_loopw [11, 12] (fun pv iv wr => ∃ k : Nat, k ≤ R.length ∧ pv = .int .i64 ((keptR 0 (R.take k)).length : Int) ∧ iv = .int .i64 k ∧ wr = wc) (fun _ iv _ => R.length - (intOf iv).toNat)
    case atStart => exact ⟨0, Nat.zero_le _, rfl, rfl, rfl⟩
    case round =>
      obtain ⟨k, hk, rfl, rfl, rfl⟩ := hrel
      have hpl := kept_len 0 (R.take k)
      have hpl2 : (R.take k).length ≤ k := by simp; omega
      by_cases hlt : k < R.length
      · obtain ⟨b1, o1, rfl, _, hc1⟩ := HI.at hkc (by omega)
        have c0 := hc1 k hlt
        have hstep := take_step R k hlt
        have hbk := HW.out.bk k hlt
        have hz1 := HW.out.re R[k] (List.getElem_mem _)
        obtain ⟨z, hzd⟩ : ∃ z, R[k] = z := ⟨_, rfl⟩
        rw [hzd] at c0 hstep hbk hz1
        obtain ⟨P, hP⟩ : ∃ P, (keptR 0 (R.take k)).length = P := ⟨_, rfl⟩
        rw [hP] at hstep hpl ⊢
        clear hc1 hzd hP
        have i1 : 0 ≤ (k : Int) := by omega
        have i2 : (k : Int) < (R.length : Int) := by omega
        by_cases hz : z < 0
        · rw [if_pos (by omega)] at hstep
          have HS : Hid ((keptR 0 (R.take (k + 1))).length = P) := (by show _ = _; omega)
          clear hstep hbk
          go_wp2
          go_roundw
          case rel => exact ⟨k + 1, by omega, by rw [HS.out], by go_num, trivial⟩
          case measure => simp [intOf]; omega
        · rw [if_neg (by omega)] at hstep
          have HS : Hid ((keptR 0 (R.take (k + 1))).length = P + 1) := hstep
          obtain ⟨hzm, hbz⟩ := hbk (by omega)
          obtain ⟨zn, rfl⟩ : ∃ zn : Nat, z = (zn : Int) := ⟨z.toNat, by omega⟩
          rw [Int.toNat_natCast] at hbz
          have hzb : zn < back.length := by have := HBL.out; omega
          obtain ⟨b2, o2, rfl, _, hc2⟩ := HI.at hbc (by omega)
          have c1 := hc2 zn hzb
          rw [List.getElem?_eq_getElem hzb, Option.some_inj] at hbz
          rw [hbz] at c1
          clear hstep hbk hc2 hbz
          have j1 : 0 ≤ (zn : Int) := by omega
          have j2 : (zn : Int) < (back.length : Int) := by omega
          go_wp2
          go_roundw
          case rel => exact ⟨k + 1, by omega, by rw [HS.out]; go_num, by go_num, trivial⟩
          case measure => simp [intOf]; omega
      · obtain rfl : k = R.length := by omega
        rw [List.take_of_length_le (Nat.le_refl _)] at hpl ⊢
        obtain ⟨T, hT⟩ : ∃ T, (keptR 0 R).length = T := ⟨_, rfl⟩
        have HT : Hid ((keptR 0 back).length = T) := (by show _ = _; rw [HW.out.kl, hT])
        rw [hT] at hpl ⊢
        clear hT hpl2
        have hbl2 : back.length ≤ 299 := by have := HBL.out; omega
        go_wp2
        go_loopw [11, 13] (fun pv iv wz => ∃ k : Nat, k ≤ back.length ∧ pv = .int .i64 ((T : Int) - ((keptR 0 (back.take k)).length : Int)) ∧ iv = .int .i64 k ∧ wz = wr) (fun _ iv _ => back.length - (intOf iv).toNat)
        case atStart => exact ⟨0, Nat.zero_le _, by simp [keptR], rfl, rfl⟩
        case round =>
          obtain ⟨k, hk, rfl, rfl, rfl⟩ := hrel
          have hpl' := kept_len 0 (back.take k)
          have hpl2 : (back.take k).length ≤ k := by simp; omega
          by_cases hlt : k < back.length
          · obtain ⟨b1, o1, rfl, _, hc1⟩ := HI.at hbc (by omega)
            have c0 := hc1 k hlt
            have hstep := take_step back k hlt
            have hz1 := HW.out.be back[k] (List.getElem_mem _)
            obtain ⟨z, hzd⟩ : ∃ z, back[k] = z := ⟨_, rfl⟩
            rw [hzd] at c0 hstep hz1
            obtain ⟨P, hP⟩ : ∃ P, (keptR 0 (back.take k)).length = P := ⟨_, rfl⟩
            rw [hP] at hstep hpl' ⊢
            clear hc1 hzd hP
            have i1 : 0 ≤ (k : Int) := by omega
            have i2 : (k : Int) < (back.length : Int) := by omega
            have i3 : (k : Int) < M := by have := HBL.out; omega
            by_cases hz : z < 0
            · rw [if_pos (by omega)] at hstep
              have HS : Hid ((keptR 0 (back.take (k + 1))).length = P) := (by show _ = _; omega)
              clear hstep
              go_wp2
              go_roundw
              case rel => exact ⟨k + 1, by omega, by rw [HS.out], by go_num, trivial⟩
              case measure => simp [intOf]; omega
            · rw [if_neg (by omega)] at hstep
              have HS : Hid ((keptR 0 (back.take (k + 1))).length = P + 1) := hstep
              clear hstep
              go_wp2
              go_roundw
              case rel => exact ⟨k + 1, by omega, by rw [HS.out]; go_num, by go_num, trivial⟩
              case measure => simp [intOf]; omega
          · obtain rfl : k = back.length := by omega
            rw [List.take_of_length_le (Nat.le_refl _), HT.out]
            clear hpl' hpl2
            have i3 : M ≤ ((back.length : Nat) : Int) := by have := HBL.out; omega
            go_wp2_with fail
            refine (Cost_f X cst _ _ hxc (by omega) HCX).mono ?_
            rintro e wd ⟨rfl, hBd⟩
            have hkd := HI.keep hkc hBd (Nat.le_refl _)
            go_wp2_with fail
            refine (taken_f R tk _ wd hkd (by omega) HTK).mono ?_
            rintro e we ⟨rfl, hBe⟩
            have hfin := HCT.out
            subst hfin
            go_wp2
            go_ret
            exact ⟨rfl, hB0c.trans ((hBd.trans (hBe.mono hBd.size)).mono hB0c.size)⟩

theorem contract (H : Type) (enc : TypeId × Value → H) (W : World) (base : Nat) (args : Array Value) (ds gs : List (DataW H)) (before : List MemPlace)
    (hval : ∀ (j : Nat) t v, Try.f6.params[j]? = some t → args[j]? = some v → Value.okWide Try.prog W .any base t v)
    (hW : DataW.Whole enc Try.prog Try.f6.params.toList Rows.editsBackSpec.vars false W args.toList ds gs before) (hk : Rows.uptoSmall H (ds ++ gs) = true) :
    Calls Try.prog 6 args W fun e W' => ∃ v, e = .returned v ∧ Rows.editsBackSpec.post enc Try.prog Try.f6 false true false false W args v W' := by
  have hW' := hW
  obtain ⟨p, q, hA0, hV, rfl, hfz, hnd⟩ := hW
  have hA : DataW.TrodAll enc Try.prog W 0 (fun _ => true) true Try.f6.params.toList args.toList ds p := hA0
  rw [Try.params6] at hA hval
  obtain ⟨v0, vs0, d0, ds0, p0, q0, hargs, rfl, rfl, h0, r0⟩ := trodAll_cons hA
  obtain ⟨v1, vs1, d1, ds1, p1, q1, rfl, rfl, rfl, h1, r1⟩ := trodAll_cons r0
  obtain ⟨rfl, rfl, rfl⟩ := trodAll_nil r1
  obtain rfl : args = #[v0, v1] := by cases args; simp_all
  obtain ⟨rfl, rfl⟩ := trodVars_none hV
  obtain ⟨a0, len0, cap0, rfl⟩ := okWide_slice Try.underlying26 (hval 0 26 v0 rfl rfl)
  have k0 := h0
  have lt0 : ∀ x ∈ p0, x.block < W.heap.size := by obtain ⟨m, hm⟩ := k0; exact DataW.trod_lt m _ _ _ hm
  obtain ⟨n1, rfl, rfl, rfl, wn1⟩ := open_int Try.underlying3 (hval 1 3 v1 rfl rfl) h1
  clear hA0
  simp only [List.append_nil] at hk
  have hbk : Rows.uptoBulkAll [d0, .lit (.int .i64 n1)] ≤ 1048576 := of_decide_eq_true hk
  simp only [Rows.uptoBulkAll, Rows.uptoBulk] at hbk
  obtain ⟨f0, hf0⟩ := h0
  obtain ⟨ws0, hv0, hwl0, hwf0⟩ := open_nums (by simpa [Value.cells] using hf0)
  have hw := walk ws0 n1 (.slice a0 len0 cap0) W (by omega) (bounds_i64 wn1) hv0
  refine hw.mono fun e W' ⟨he, bel⟩ => ?_
  subst he
  exact ⟨_, rfl, _, _, _, [], _, [], hW', trodAll_mk1 (shut_bool Try.underlying4 _), trodAll_cons_mk (Below.trod laidOut (by kernel_rfl) (of_decide_eq_true (by kernel_rfl)) k0 bel lt0) (trodAll_cons_mk (shut_int Try.underlying3 wn1) trodAll_mk0), rfl, bel.frame _, fun h => by cases h⟩

set_option maxRecDepth 100000 in
theorem lifted (os : Os) (started : os.Started) (H : Type) (enc : TypeId × Value → H) (F : Stop.Interp) :
    ReturnsInHanded {} Try.checked os 6 .any ((Rows.OpenSpec.upto Rows.editsBackSpec).pre6 enc Try.prog Try.f6 Rows.editsBackUptoRow.domain false) (((Rows.OpenSpec.upto Rows.editsBackSpec).at F).post enc Try.prog Try.f6 false true false false) := by
  refine returnsInHanded_of_cond (C := Try.checked) (s := Rows.OpenSpec.upto Rows.editsBackSpec) (k := Rows.uptoSmall) rfl own started (by kernel_rfl) Try.func6
    (OpenSpec.witness (enc := enc) (C := Try.checked) (s := Rows.OpenSpec.upto Rows.editsBackSpec) (k := Rows.uptoSmall) rfl false ⟨#[], #[.slice none 0 0, .int .i64 0], []⟩ 8 (by kernel_rfl) (by kernel_rfl) (by kernel_rfl)
      (x := ([.nil, .lit (.int .i64 0)], [], [])) (by kernel_rfl) rfl (by kernel_rfl)) ?_
  intro W base args ds gs before hval hW _ hk _
  exact contract H enc W base args ds gs before hval hW hk

theorem proved : Rows.EditsBackUptoSaid :=
  OpenClaim.holds_of_cond 6 Try.f6 rfl rfl rfl rfl rfl rfl rfl ⟨rfl, rfl, rfl, rfl, rfl⟩ rfl rfl rfl rfl rfl (by kernel_rfl) Try.func6 (by kernel_rfl)
    (of_decide_eq_true (by kernel_rfl)) (by unfold Func.isWrapper; first | (rw [if_pos (by decide +kernel)]; kernel_rfl) | (rw [if_neg (by decide +kernel)]; exact ⟨rfl, rfl⟩))
    (fun os started H enc _ F => lifted os started H enc F)
#print axioms proved
end Go.Proofs.Ytoacmaloiaeniaa.editsBack
