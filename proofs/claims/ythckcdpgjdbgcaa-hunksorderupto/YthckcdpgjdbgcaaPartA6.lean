/-
  Texts that belong together, joined: HuCh, HuGr, HuC1, EdOpen, EdOpenS, HuOpen.
-/
import Derived.Test.YthckcdpgjdbgcaaPartA3
import Derived.Test.YthckcdpgjdbgcaaPartA5
import Derived.Deep.CutRange
import Derived.Test.YthckcdpgjdbgcaaRows
import Derived.Test.YthckcdpgjdbgcaaChecked
import Derived.Test.YthckcdpgjdbgcaaPartA1
import Derived.ProofKit
import Derived.OpenShut
import Derived.ShutString
import Derived.ChangeOld
import Derived.Below
import Derived.SliceStrings
import Derived.ChangeSlices
import Derived.Deep.Slices
import Derived.Deep.SlicePairs
import Derived.JoinedCond
import Derived.Test.YthckcdpgjdbgcaaPartA2

/- The reference's Changes of layer 11, walked. -/
namespace Go.Proofs.Ythckcdpgjdbgcaa
open Go.RowKit

/-- a last change whose numbers can be added to -/
def Hhd : List Ch → Prop
  | [] => True
  | c :: _ => (-1 ≤ c.A ∧ 0 ≤ c.AN ∧ c.A + c.AN ≤ 4398046511104) ∧ -1 ≤ c.B ∧ 0 ≤ c.BN ∧ c.B + c.BN ≤ 4398046511104
/-- how many lines hunks have -/
def tot : List Hk → Nat
  | [] => 0
  | h :: l => h.ls.length + tot l
/-- changes backwards as cells -/
def bch (r : List Ch) : List Value := chcells r.reverse
theorem bch_cons (c : Ch) (r : List Ch) : bch (c :: r) = bch r ++ chC c := by simp [bch, chcells]
theorem bch_length (r : List Ch) : (bch r).length = r.length * 4 := by simp [bch, chcells_length]
theorem bch_at (c : Ch) (r : List Ch) : (bch (c :: r))[r.length * 4]? = some (.int .i64 c.A) ∧ (bch (c :: r))[r.length * 4 + 1]? = some (.int .i64 c.AN) ∧ (bch (c :: r))[r.length * 4 + 2]? = some (.int .i64 c.B) ∧ (bch (c :: r))[r.length * 4 + 3]? = some (.int .i64 c.BN) := by
  have hl := bch_length r
  rw [bch_cons]
  refine ⟨?_, ?_, ?_, ?_⟩ <;> rw [List.getElem?_append_right (by omega)] <;> simp [hl, chC]
theorem bch_setA (c : Ch) (r : List Ch) (z : Int) : (bch (c :: r)).set (r.length * 4 + 1) (.int .i64 z) = bch (⟨c.A, z, c.B, c.BN⟩ :: r) := by
  have hl := bch_length r
  rw [bch_cons, bch_cons, List.set_append_right _ _ (by omega)]
  simp [hl, chC]
theorem bch_setB (c : Ch) (r : List Ch) (z : Int) : (bch (c :: r)).set (r.length * 4 + 3) (.int .i64 z) = bch (⟨c.A, c.AN, c.B, z⟩ :: r) := by
  have hl := bch_length r
  rw [bch_cons, bch_cons, List.set_append_right _ _ (by omega)]
  simp [hl, chC]
/-- a row that is not empty: where it lies -/
theorem hown_at {u : World} {B : Nat} {e : TypeId} {s : Nat} {oo : Option Addr} {n oc : Nat} {xs : List Value} (h : u.ownsRow B e s (.slice oo (n + 1) oc) (n + 1) xs) : ∃ g, oo = some ⟨g, 0, none⟩ := by
  rcases h.2 with ⟨_, h0⟩ | ⟨g, cap, cur, e, _⟩
  · omega
  · cases e
    exact ⟨g, rfl⟩
theorem opn_head (a b : Int) (r : List Ch) : ∃ c t, opn a b r = c :: t ∧ c.A + c.AN = a ∧ c.B + c.BN = b := by
  unfold opn
  cases r with
  | nil => exact ⟨_, _, rfl, by simp, by simp⟩
  | cons c r =>
    by_cases h : endsAt a b (c :: r) = true
    · rw [if_pos h]
      simp only [endsAt, Bool.and_eq_true, decide_eq_true_eq] at h
      exact ⟨c, r, rfl, h.1, h.2⟩
    · rw [if_neg h]
      exact ⟨_, _, rfl, by simp, by simp⟩

set_option maxRecDepth 10000 in
set_option maxHeartbeats 8000000 in
theorem rChanges_f (p : List (Hk × Value)) (v : Value) (w : World) (hv : HHp w v p) (hok : HOk p) (ht : tot (p.map (·.1)) ≤ 1099511627776) (z : Int) (HZ : Hid (ordH (p.map (·.1)) = z)) (R : List Ch) (HR : Hid (chR (p.map (·.1)) = R)) : Calls Try.prog 24 #[v] w fun e w' => ∃ v', e = .returned (.tuple #[v', .int .i64 z]) ∧ HCh w' v' R ∧ Below w.heap.size w w' := by
  obtain ⟨vo, vc, rfl⟩ := Holds.form hv.row
  have hpl : p.length ≤ 1099511627776 := hok.1
  have HOK : Hid (HOk p) := hok
  obtain ⟨l, hl⟩ : ∃ l, p.map (·.1) = l := ⟨_, rfl⟩
  have hll : p.length = l.length := by rw [← hl]; simp
  have HL : Hid (p.map (·.1) = l) := hl
  have HLL : Hid (p.length = l.length) := hll
  have hZ2 : Hid (ordH (p.map (·.1)) = z) := HZ
  rw [hl] at HR HZ ht
  clear hl hll hok
  go_enter Try.func24, Try.ntmps24
  go_wp2_with fail
  refine (rOrder_f p _ w hv HOK.out z hZ2).mono ?_
  rintro e W ⟨rfl, hBW⟩
  by_cases hz : z = 0
  · subst hz
    have HR2 : Hid ((chHs [] l).reverse = R) := (by
      show _ = _
      rw [← HR.out]
      unfold chR
      rw [if_pos HZ.out])
    have HCK : Hid (∀ x ∈ l, chkH x = 0) := (by
      refine errs_ok ?_
      have h := HZ.out
      unfold ordH at h
      by_cases hq : errs l = 0
      · exact hq
      · rw [if_pos hq] at h
        exact h)
    clear HR HZ hZ2
    go_wp2
    go_loopw [5, 6] (fun ov iv wr => ∃ (k : Nat) (r : List Ch), k ≤ p.length ∧ iv = .int .i64 (k : Int) ∧ (∃ oo oc, ov = .slice oo r.length oc) ∧ r.length + tot (l.drop k) ≤ 1099511627776 ∧ Hid (Hhd r) ∧ St W 35 4 ov r.length (bch r) wr ∧ Hid ((chHs r (l.drop k)).reverse = R)) (fun _ iv _ => p.length - (intOf iv).toNat)
    case atStart => exact ⟨0, [], Nat.zero_le _, by go_num, ⟨_, _, rfl⟩, by simpa using ht, trivial, ⟨hnil_row _ _ _ _, Below.refl _ _⟩, HR2⟩
    case round =>
      obtain ⟨k, r, hk, rfl, ⟨oo, oc, rfl⟩, hrt, HHD, hS, HI⟩ := hrel
      clear HR2
      have hB := hBW.trans (hS.low.mono hBW.size)
      by_cases hlt : k < p.length
      · obtain ⟨b, off, rfl, hb, _⟩ := hv.at (by omega)
        obtain ⟨x, y, hxy⟩ : ∃ x y, p[k] = (x, y) := ⟨_, _, rfl⟩
        obtain ⟨⟨c0, c1, c2, c3, c4⟩, hm⟩ := hv.take hB k hlt hxy
        have hmW := (hv.take hBW k hlt hxy).2
        have hbd := (HOK.out.2 _ (List.getElem_mem hlt)).1
        rw [hxy] at hbd
        have hlk : l[k]'(by have := HLL.out; omega) = x := by
          have hz : l[k]? = some x := by rw [← HL.out]; simp [hlt, hxy]
          exact (List.getElem?_eq_some_iff.1 hz).2
        have hck : chkH x = 0 := HCK.out x (by rw [← hlk]; exact List.getElem_mem _)
        have hdr : l.drop k = x :: l.drop (k + 1) := by rw [List.drop_eq_getElem_cons (l := l) (i := k) (by have := HLL.out; omega), hlk]
        have hn := chk_num hck
        obtain ⟨X, hX⟩ : ∃ X, atA x = X := ⟨_, rfl⟩
        obtain ⟨Y, hY⟩ : ∃ Y, atB x = Y := ⟨_, rfl⟩
        have ha := at_num hck
        rw [hX, hY] at ha
        have HX : Hid (atA x = X) := hX
        have HY : Hid (atB x = Y) := hY
        have HI2 : Hid ((chHs (chLs X Y r x.ls) (l.drop (k + 1))).reverse = R) := (by
          show _ = _
          rw [← HI.out, hdr]
          simp only [chHs]
          rw [hX, hY])
        have hrt2 : r.length + x.ls.length + tot (l.drop (k + 1)) ≤ 1099511627776 := by
          rw [hdr] at hrt
          simp only [tot] at hrt
          omega
        obtain ⟨yo, yc, rfl⟩ := hm.form
        have i1 : 0 ≤ (k : Int) := by omega
        have i2 : (k : Int) < (p.length : Int) := by omega
        obtain ⟨T, hT⟩ : ∃ T, tot (l.drop (k + 1)) = T := ⟨_, rfl⟩
        rw [hT] at hrt2
        have HT : Hid (tot (l.drop (k + 1)) = T) := hT
        dsimp only at hbd
        clear HI hlk hck hX hY hdr hrt hT
        go_wp2_with fail
        refine (rAt_f x _ _ (by omega) (by omega) (by omega) (by omega) X Y HX HY).mono ?_
        rintro e wr1 ⟨rfl, hB1⟩
        have hS1 : St W 35 4 (.slice oo r.length oc) r.length (bch r) wr1 := ⟨owns_keep hS.own hB1, hS.low.trans (hB1.mono hS.low.size)⟩
        clear hS hB1 hB hm c0 c1 c2 c3 c4 HX HY
        go_wp2
        go_loopw [5, 7, 8, 9] (fun ov av bv jv wr => ∃ (j : Nat) (a b : Int) (r : List Ch), j ≤ x.ls.length ∧ av = .int .i64 a ∧ bv = .int .i64 b ∧ jv = .int .i64 (j : Int) ∧ (∃ oo oc, ov = .slice oo r.length oc) ∧ (-1 ≤ a ∧ a ≤ 2147483647 + (j : Int)) ∧ (-1 ≤ b ∧ b ≤ 2147483647 + (j : Int)) ∧ r.length + (x.ls.length - j) + T ≤ 1099511627776 ∧ Hid (Hhd r) ∧ St W 35 4 ov r.length (bch r) wr ∧ Hid ((chHs (chLs a b r (x.ls.drop j)) (l.drop (k + 1))).reverse = R)) (fun _ _ _ jv _ => x.ls.length - (intOf jv).toNat)
        case atStart => exact ⟨0, X, Y, r, Nat.zero_le _, by go_num, by go_num, by go_num, ⟨_, _, rfl⟩, by omega, by omega, by omega, HHD, hS1, HI2⟩
        case round =>
          obtain ⟨j, a, bb, r, hj, rfl, rfl, rfl, ⟨oo, oc, rfl⟩, hab, hbb, hrt, HHD, hS, HI⟩ := hrel
          clear HI2 hrt2 hS1
          have hB := hBW.trans (hS.low.mono hBW.size)
          obtain ⟨⟨c0, c1, c2, c3, c4⟩, hm⟩ := hv.take hB k hlt hxy
          by_cases hjl : j < x.ls.length
          · obtain ⟨mb, mo, rfl, _, hmc⟩ := HMk.at hm (by omega)
            obtain ⟨m0, m1⟩ := hmc j hjl
            obtain ⟨m, hmj⟩ : ∃ m, x.ls[j] = m := ⟨_, rfl⟩
            rw [hmj] at m0 m1
            obtain ⟨sg, tx⟩ := m
            dsimp only at m0 m1
            have HI3 : Hid ((chHs (if sg = 32 then chLs (a + 1) (bb + 1) r (x.ls.drop (j + 1)) else if sg = 45 then chLs (a + 1) bb (bmA (opn a bb r)) (x.ls.drop (j + 1)) else chLs a (bb + 1) (bmB (opn a bb r)) (x.ls.drop (j + 1))) (l.drop (k + 1))).reverse = R) := (by
              show _ = _
              rw [← HI.out, List.drop_eq_getElem_cons hjl, hmj]
              rfl)
            have j1 : 0 ≤ (j : Int) := by omega
            have j2 : (j : Int) < (x.ls.length : Int) := by omega
            clear HI hmj hmc m1 hm
            by_cases h32 : sg = 32
            · subst h32
              have HI4 : Hid ((chHs (chLs (a + 1) (bb + 1) r (x.ls.drop (j + 1))) (l.drop (k + 1))).reverse = R) := (by
                have h := HI3.out
                rw [if_pos rfl] at h
                exact h)
              clear HI3
              go_wp2
              exact ⟨⟨j + 1, _, _, r, by omega, by go_num, by go_num, by go_num, ⟨_, _, rfl⟩, by omega, by omega, by omega, HHD, hS, HI4⟩, by simp [intOf]; omega⟩
            · have e32 : (sg == 32) = false := by simpa using h32
              obtain ⟨c, t, hop, hcA, hcB⟩ := opn_head a bb r
              have HOP : Hid (opn a bb r = c :: t) := hop
              have HCC : Hid (c.A + c.AN = a ∧ c.B + c.BN = bb) := ⟨hcA, hcB⟩
              have HI4 : Hid ((chHs (if sg = 45 then chLs (a + 1) bb (⟨c.A, c.AN + 1, c.B, c.BN⟩ :: t) (x.ls.drop (j + 1)) else chLs a (bb + 1) (⟨c.A, c.AN, c.B, c.BN + 1⟩ :: t) (x.ls.drop (j + 1))) (l.drop (k + 1))).reverse = R) := (by
                have h := HI3.out
                rw [if_neg h32, hop] at h
                exact h)
              clear HI3 hop hcA hcB
              go_upto_region 17 with fail
              obtain ⟨eb, heb⟩ : ∃ eb, endsAt a bb r = eb := ⟨_, rfl⟩
              have HEB : Hid (endsAt a bb r = eb) := heb
              clear heb
              go_cut [5, 11, 90] from 31 to 120 (fun ov nv c wz => ov = .slice oo r.length oc ∧ nv = .int .i64 ((r.length : Int) - 1) ∧ c = .bool (!eb) ∧ ∃ m, wz = wr.drewN m)
              case first =>
                cases r with
                | nil =>
                  obtain rfl : eb = false := HEB.out.symm
                  clear HEB HI4 HOP
                  go_quiet (fail)
                  go_wp2_with fail
                  go_meet
                  case rel => exact ⟨rfl, by simp, rfl, _, rfl⟩
                | cons c0 r0 =>
                  have hd := HHD.out
                  obtain ⟨cA, cAN, cB, cBN⟩ := c0
                  simp only [Hhd] at hd
                  have hown := hS.own
                  rw [List.length_cons] at hown
                  obtain ⟨g, rfl⟩ := hown_at hown
                  obtain ⟨q0, q1, q2, q3⟩ := bch_at ⟨cA, cAN, cB, cBN⟩ r0
                  have d0 := (hown.cellAt (r0.length * 4) (by omega)).trans q0
                  have d1 := (hown.cellAt (r0.length * 4 + 1) (by omega)).trans q1
                  have d2 := (hown.cellAt (r0.length * 4 + 2) (by omega)).trans q2
                  have d3 := (hown.cellAt (r0.length * 4 + 3) (by omega)).trans q3
                  dsimp only at d0 d1 d2 d3
                  have HEB2 : Hid ((decide (cA + cAN = a) && decide (cB + cBN = bb)) = eb) := HEB.out
                  clear HEB q0 q1 q2 q3
                  obtain ⟨n0, hn0⟩ : ∃ n, r0.length = n := ⟨_, rfl⟩
                  have HN0 : Hid (r0.length = n0) := hn0
                  simp only [List.length_cons, hn0] at d0 d1 d2 d3 ⊢
                  clear hn0
                  have l1 : decide ((n0 : Int) < 0) = false := decide_eq_false (by omega)
                  have l2 : (0 : Int) ≤ (n0 : Int) := by omega
                  have l3 : (n0 : Int) < (n0 : Int) + 1 := by omega
                  have w1 : IntKind.i64.wrap (cA + cAN) = cA + cAN := wrap_s (by omega) (by omega)
                  have w2 : IntKind.i64.wrap (cB + cBN) = cB + cBN := wrap_s (by omega) (by omega)
                  by_cases hA : cA + cAN = a
                  · have eA : (cA + cAN != a) = false := by simpa using hA
                    by_cases hBq : cB + cBN = bb
                    · have eB : (cB + cBN != bb) = false := by simpa using hBq
                      obtain rfl : eb = true := by rw [← HEB2.out]; simp [hA, hBq]
                      clear HEB2 HI4 HOP hA hBq HCC
                      go_quiet (fail)
                      go_wp2_with fail
                      go_meet
                      case rel => exact ⟨by simp [HN0.out], by simp [HN0.out], rfl, _, rfl⟩
                    · have eB : (cB + cBN != bb) = true := by simpa using hBq
                      obtain rfl : eb = false := by rw [← HEB2.out]; simp [hBq]
                      clear HEB2 HI4 HOP hA hBq HCC
                      go_quiet (fail)
                      go_wp2_with fail
                      go_meet
                      case rel => exact ⟨by simp [HN0.out], by simp [HN0.out], rfl, _, rfl⟩
                  · have eA : (cA + cAN != a) = true := by simpa using hA
                    obtain rfl : eb = false := by rw [← HEB2.out]; simp [hA]
                    clear HEB2 HI4 HOP hA HCC
                    go_quiet (fail)
                    go_wp2_with fail
                    go_meet
                    case rel => exact ⟨by simp [HN0.out], by simp [HN0.out], rfl, _, rfl⟩
              case rest =>
                obtain ⟨rfl, rfl, rfl, mm, rfl⟩ := hcut
                have hSd : St W 35 4 (.slice oo r.length oc) r.length (bch r) (wr.drewN mm) := ⟨hS.own, Below.dN hS.low mm⟩
                clear hS c0 c1 c2 c3 c4 m0
                generalize wr.drewN mm = w2 at *
                go_upto_if 90 with fail
                go_cut [5, 11] from 31 to 120 (fun ov nv wz => (∃ oo oc, ov = .slice oo (t.length + 1) oc) ∧ nv = .int .i64 (t.length : Int) ∧ St W 35 4 ov (t.length + 1) (bch (c :: t)) wz)
                case first =>
                  cases eb with
                  | true =>
                    obtain ⟨c0, r0, rfl⟩ : ∃ c0 r0, r = c0 :: r0 := by
                      cases r with
                      | nil => have := HEB.out; cases this
                      | cons c0 r0 => exact ⟨c0, r0, rfl⟩
                    have hop := HOP.out
                    unfold opn at hop
                    rw [if_pos HEB.out] at hop
                    cases hop
                    clear HEB HOP HI4 HCC
                    go_wp2_with fail
                    go_meet
                    case rel => exact ⟨⟨_, _, rfl⟩, by simp, by rw [List.length_cons] at hSd; exact hSd⟩
                  | false =>
                    have hop := HOP.out
                    unfold opn at hop
                    rw [if_neg (by rw [HEB.out]; simp)] at hop
                    cases hop
                    have hs2 := hSd.low.size
                    have hrow := new_holds w2 #[.int .i64 a, .int .i64 0, .int .i64 bb, .int .i64 0] 35 1 1 (by decide)
                    clear HEB HOP HI4 HCC
                    go_wp2_with (at_builtin; refine wpList_append_h _ (by kernel_rfl) (.tmp 91) (.tmp 95) 22 35 (.agg #[.int .i64 0, .int .i64 0, .int .i64 0, .int .i64 0]) 4 32 rfl Try.underlying22 infoCh rfl (by decide) (by decide) W.heap.size _ _ _ rfl (hSd.own.alloc _) _ 1 (chcells [⟨a, 0, bb, 0⟩]) rfl hrow rfl (chcells_one _) (by omega) (by simp; omega) ?_)
                    intro v3 u3 hown3 hg3
                    have hS3 := (st_alloc (Obj.cells #[.int .i64 a, .int .i64 0, .int .i64 bb, .int .i64 0] 35) hSd).grown hown3 hg3
                    obtain ⟨o3, c3, rfl⟩ := (holds_of hown3).form
                    rw [show chcells [(⟨a, 0, bb, 0⟩ : Ch)] = chC ⟨a, 0, bb, 0⟩ by simp [chcells]] at hS3
                    clear hown3 hg3
                    go_wp2_with fail
                    go_meet
                    case rel => exact ⟨⟨_, _, rfl⟩, by go_num, by rw [bch_cons]; exact hS3⟩
                case rest =>
                  obtain ⟨⟨o4, c4, rfl⟩, rfl, hS4⟩ := hcut
                  obtain ⟨g, rfl⟩ := hown_at hS4.own
                  obtain ⟨q0, q1, q2, q3⟩ := bch_at c t
                  have hd : (-1 ≤ c.A ∧ 0 ≤ c.AN) ∧ -1 ≤ c.B ∧ 0 ≤ c.BN := (by
                    have h1 := HHD.out
                    have h2 := HOP.out
                    unfold opn at h2
                    by_cases hq : endsAt a bb r = true
                    · rw [if_pos hq] at h2
                      rw [h2] at h1
                      simp only [Hhd] at h1
                      omega
                    · rw [if_neg hq] at h2
                      cases h2
                      dsimp only
                      omega)
                  have hlen : t.length + 1 ≤ r.length + 1 := (by
                    have h2 := HOP.out
                    unfold opn at h2
                    by_cases hq : endsAt a bb r = true
                    · rw [if_pos hq] at h2
                      rw [h2]
                      simp
                    · rw [if_neg hq] at h2
                      cases h2
                      simp)
                  have hcc := HCC.out
                  obtain ⟨cA, cAN, cB, cBN⟩ := c
                  dsimp only at hd hcc HI4 q0 q1 q2 q3
                  have d1 := (hS4.own.cellAt (t.length * 4 + 1) (by omega)).trans q1
                  have d3 := (hS4.own.cellAt (t.length * 4 + 3) (by omega)).trans q3
                  have f1 := hS4.own.frozenAt (t.length * 4 + 1)
                  have f3 := hS4.own.frozenAt (t.length * 4 + 3)
                  have k1 : 0 ≤ (t.length : Int) := by omega
                  have k2 : (t.length : Int) < (t.length : Int) + 1 := by omega
                  clear q0 q1 q2 q3 HHD HOP HCC HEB hSd
                  by_cases h45 : sg = 45
                  · subst h45
                    have HI5 : Hid ((chHs (chLs (a + 1) bb (⟨cA, cAN + 1, cB, cBN⟩ :: t) (x.ls.drop (j + 1))) (l.drop (k + 1))).reverse = R) := (by
                      have h := HI4.out
                      rw [if_pos rfl] at h
                      exact h)
                    have hst := hS4.own.stored (t.length * 4 + 1) (.int .i64 (cAN + 1))
                    rw [bch_setA] at hst
                    have hS5 : St W 35 4 (.slice (some ⟨g, 0, none⟩) (t.length + 1) c4) (t.length + 1) (bch (⟨cA, cAN + 1, cB, cBN⟩ :: t)) (wc.setCell ⟨g, t.length * 4 + 1, none⟩ (.int .i64 (cAN + 1))) := hS4.grown hst.1 hst.2
                    clear HI4 hst hS4 d3 f3
                    go_wp2
                    exact ⟨⟨j + 1, _, _, ⟨cA, cAN + 1, cB, cBN⟩ :: t, by omega, by go_num, by go_num, by go_num, ⟨_, _, rfl⟩, by omega, by omega, by simp only [List.length_cons]; omega, by simp only [Hhd]; show _ ∧ _; omega, hS5, HI5⟩, by simp [intOf]; omega⟩
                  · have e45 : (sg == 45) = false := by simpa using h45
                    have HI5 : Hid ((chHs (chLs a (bb + 1) (⟨cA, cAN, cB, cBN + 1⟩ :: t) (x.ls.drop (j + 1))) (l.drop (k + 1))).reverse = R) := (by
                      have h := HI4.out
                      rw [if_neg h45] at h
                      exact h)
                    have hst := hS4.own.stored (t.length * 4 + 3) (.int .i64 (cBN + 1))
                    rw [bch_setB] at hst
                    have hS5 : St W 35 4 (.slice (some ⟨g, 0, none⟩) (t.length + 1) c4) (t.length + 1) (bch (⟨cA, cAN, cB, cBN + 1⟩ :: t)) (wc.setCell ⟨g, t.length * 4 + 3, none⟩ (.int .i64 (cBN + 1))) := hS4.grown hst.1 hst.2
                    clear HI4 hst hS4 d1 f1
                    go_wp2
                    exact ⟨⟨j + 1, _, _, ⟨cA, cAN, cB, cBN + 1⟩ :: t, by omega, by go_num, by go_num, by go_num, ⟨_, _, rfl⟩, by omega, by omega, by simp only [List.length_cons]; omega, by simp only [Hhd]; show _ ∧ _; omega, hS5, HI5⟩, by simp [intOf]; omega⟩
          · have HI3 : Hid ((chHs r (l.drop (k + 1))).reverse = R) := (by
              have h := HI.out
              rw [List.drop_of_length_le (by omega)] at h
              exact h)
            have hend : decide ((j : Int) < (x.ls.length : Int)) = false := decide_eq_false (by omega)
            clear HI
            go_wp2
            exact ⟨⟨k + 1, r, by omega, by go_num, ⟨_, _, rfl⟩, by have := HT.out; omega, HHD, hS, HI3⟩, by simp [intOf]; omega⟩
      · have HI3 : Hid (r.reverse = R) := (by
          have h := HI.out
          rw [List.drop_of_length_le (by have := HLL.out; omega)] at h
          exact h)
        have hend : decide ((k : Int) < (p.length : Int)) = false := decide_eq_false (by omega)
        clear HI
        go_wp2
        go_ret2
        refine ⟨_, rfl, ?_, hB⟩
        have h := holds_of hS.own
        rw [← HI3.out]
        unfold HCh
        rw [List.length_reverse]
        exact h
  · have hz1 : (z != 0) = true := by simpa using hz
    obtain rfl : R = [] := by
      rw [← HR.out]
      unfold chR
      rw [if_neg (by rw [HZ.out]; exact hz)]
    clear HR HZ hZ2 hz
    go_wp2
    go_ret2
    exact ⟨_, rfl, Holds.nil _, hBW⟩
end Go.Proofs.Ythckcdpgjdbgcaa

/- The reference's Group of layer 11, walked. -/
namespace Go.Proofs.Ythckcdpgjdbgcaa
open Go.RowKit

theorem infoCs : (Try.prog.info? 22).map (fun i => (i.zero, i.size, i.bytes)) = some (some (.slice none 0 0), 1, 24) := by kernel_rfl
/-- groups of one's own: a row of rows of changes -/
structure Gr (w : World) (ov : Value) (G : List (List Ch × Value)) (u : World) : Prop where
  low : Below w.heap.size w u
  own : u.ownsRow w.heap.size 22 1 ov G.length (G.map (·.2))
  ins : ∀ x ∈ G, u.ownsRow w.heap.size 35 4 x.2 x.1.length (chcells x.1)
/-- the last row is none of the others -/
def Lst (G : List (List Ch × Value)) : Prop := ∀ P x, G = P ++ [x] → ∀ y ∈ P, ∀ b, x.2.ownBlock = some b → y.2.ownBlock ≠ some b
section
variable {w u u' : World} {ov ov' : Value} {G P : List (List Ch × Value)}
theorem Gr.nil (w : World) : Gr w (.slice none 0 0) [] w := ⟨Below.refl _ _, hnil_row _ _ _ _, fun _ h => by cases h⟩
theorem Gr.alloc (h : Gr w ov G u) (o : Obj) : Gr w ov G (u.alloc o) := ⟨h.low.alloc h.low.size o, h.own.alloc o, fun x hx => (h.ins x hx).alloc o⟩
theorem Gr.drewN (h : Gr w ov G u) (n : Nat) : Gr w ov G (u.drewN n) := ⟨Below.dN h.low n, h.own, h.ins⟩
theorem Gr.keep (h : Gr w ov G u) (hk : Below u.heap.size u u') : Gr w ov G u' := ⟨h.low.trans (hk.mono h.low.size), owns_keep h.own hk, fun x hx => owns_keep (h.ins x hx) hk⟩
/-- a group more -/
theorem Gr.more (h : Gr w ov G u) {g : List Ch} {gv : Value} (hgv : u.ownsRow w.heap.size 35 4 gv g.length (chcells g)) (hg : u.grownBy u' ov.ownBlock) (ho : u'.ownsRow w.heap.size 22 1 ov' (G.length + 1) (G.map (·.2) ++ [gv])) : Gr w ov' (G ++ [(g, gv)]) u' := by
  have key : ∀ {v : Value} {n : Nat} {xs : List Value}, u.ownsRow w.heap.size 35 4 v n xs → u'.ownsRow w.heap.size 35 4 v n xs := fun hv => own_kept hv hg (fun k hk => own_ne h.own hv (by decide) hk)
  refine ⟨h.low.grown hg h.low.size (fun j hj => owns_ge h.own hj), ?_, fun z hz => ?_⟩
  · rw [List.length_append, List.map_append]
    exact ho
  · rcases List.mem_append.1 hz with hz | hz
    · exact key (h.ins z hz)
    · rw [List.mem_singleton.1 hz]
      exact key hgv
/-- the last group, longer: its row has grown, and the row of rows names it -/
theorem Gr.last {g g' : List Ch} {gv gv' : Value} (h : Gr w ov (P ++ [(g, gv)]) u) (hL : Lst (P ++ [(g, gv)])) (hg : u.grownBy u' gv.ownBlock) (ho : u'.ownsRow w.heap.size 35 4 gv' g'.length (chcells g')) (hb : gv'.ownBlock = gv.ownBlock ∨ gv'.ownBlock = some u.heap.size) :
    ∃ q cap, ov = .slice (some ⟨q, 0, none⟩) (P.length + 1) cap ∧ u'.cell? ⟨q, P.length, none⟩ = some gv ∧ u'.frozen? ⟨q, P.length, none⟩ = false ∧ Gr w ov (P ++ [(g', gv')]) (u'.setCell ⟨q, P.length, none⟩ gv') ∧ Lst (P ++ [(g', gv')]) := by
  have hown := h.own
  rw [List.length_append, List.length_singleton] at hown
  have hgl := h.ins (g, gv) (by simp)
  obtain ⟨oo, oc, hov⟩ := (holds_of hown).form
  subst hov
  obtain ⟨q, rfl⟩ := hown_at hown
  have hown' := own_kept hown hg (fun k hk => own_ne hgl hown (by decide) hk)
  have hst := hown'.stored P.length gv'
  have hset : ((P ++ [(g, gv)]).map (·.2)).set P.length gv' = (P ++ [(g', gv')]).map (·.2) := by simp
  rw [hset] at hst
  have hlow : Below w.heap.size w u' := h.low.grown hg h.low.size (fun j hj => owns_ge hgl hj)
  refine ⟨q, oc, rfl, ?_, hown'.frozenAt _, ⟨hlow.grown hst.2 hlow.size (fun j hj => by cases hj; exact owns_ge hown rfl), ?_, ?_⟩, ?_⟩
  · rw [hown'.cellAt P.length (by omega)]
    simp
  · rw [List.length_append, List.length_singleton]
    exact hst.1
  · intro x hx
    have hqx : ∀ {v : Value} {n : Nat} {xs : List Value}, u'.ownsRow w.heap.size 35 4 v n xs → (u'.setCell ⟨q, P.length, none⟩ gv').ownsRow w.heap.size 35 4 v n xs := fun hv => own_kept hv hst.2 (fun k hk => own_ne hown' hv (by decide) hk)
    rcases List.mem_append.1 hx with hx | hx
    · exact hqx (own_kept (h.ins x (List.mem_append_left _ hx)) hg (fun k hk => hL P (g, gv) rfl x hx k hk))
    · rw [List.mem_singleton.1 hx]
      exact hqx ho
  · intro P' x' he y hy b' hb'
    have he2 := List.append_inj' he rfl
    obtain ⟨rfl, hx'⟩ := he2
    have hx2 : (g', gv') = x' := by simpa using hx'
    subst hx2
    rcases hb with hb | hb
    · rw [hb] at hb'
      exact hL P (g, gv) rfl y hy b' hb'
    · rw [hb] at hb'
      cases hb'
      intro e
      have := own_lt (h.ins y (List.mem_append_left _ hy)) e
      omega
end
theorem right_nums {fl : Bool} {p q n m : Int} {l : List Ch} (h : Right fl p q n m l) : ∀ c ∈ l, numB c = true := by
  induction l generalizing fl p q with
  | nil => intro c hc; cases hc
  | cons d l ih =>
    intro c hc
    rcases List.mem_cons.1 hc with rfl | hc
    · exact h.1.1
    · exact ih h.2 c hc
theorem exec_ixG {u : World} {b off n c i : Nat} (hi : i < n) {op : Oper} (x y : Operand) (ho : op.op = .indexAddr 28 x y) {ev : Operand → Value} (hx : ev x = .slice (some ⟨b, off, none⟩) n c) (hy : ev y = .int .i64 (i : Int)) :
    (execOp ev op).run Try.prog u = .ok (.value (.pointer (some ⟨b, off + i, none⟩))) u := by
  have i1 : 0 ≤ (i : Int) := by omega
  have i2 : (i : Int) < (n : Int) := by omega
  simp only [execOp, ho, hx, hy]
  go_simp
theorem load_chs {u : World} {a : Addr} {o : Option Addr} {n c : Nat} (h : u.cell? a = some (.slice o n c)) {op : Oper} (x : Operand) (ho : op.op = .load 22 x) {ev : Operand → Value} (hx : ev x = .pointer (some a)) :
    (execOp ev op).run Try.prog u = .ok (.value (.slice o n c)) u := by
  simp only [execOp, ho, hx]
  go_simp
theorem exec_storeG {u : World} {b j : Nat} (hf : u.frozen? ⟨b, j, none⟩ = false) {o n c} (hc : u.cell? ⟨b, j, none⟩ = some (.slice o n c)) {o' n' c'} {op : Oper} (x y : Operand) (ho : op.op = .store 22 x y) {ev : Operand → Value} (hx : ev x = .pointer (some ⟨b, j, none⟩)) (hy : ev y = .slice o' n' c') :
    (execOp ev op).run Try.prog u = .ok .skip (u.setCell ⟨b, j, none⟩ (.slice o' n' c')) := by
  simp only [execOp, ho, hx, hy]
  go_simp
theorem ch_row (w : World) (c : Ch) : Holds (w.alloc (chO c)) (.slice (some ⟨w.heap.size, 0, none⟩) 1 1) 1 (chcells [c]) := new_holds w #[.int .i64 c.A, .int .i64 c.AN, .int .i64 c.B, .int .i64 c.BN] 35 1 1 (by decide)
theorem ch_own (w : World) (B : Nat) (c : Ch) (hB : B ≤ w.heap.size) : (w.alloc (chO c)).ownsRow B 35 4 (.slice (some ⟨w.heap.size, 0, none⟩) 1 1) 1 (chcells [c]) := by
  refine ⟨rfl, .inr ⟨_, 1, #[.int .i64 c.A, .int .i64 c.AN, .int .i64 c.B, .int .i64 c.BN], rfl, hB, _root_.Go.heap_alloc_new w _, Nat.le_refl _, by decide, rfl, rfl⟩⟩
theorem map_split {G : List (List Ch × Value)} {gs : List (List Ch)} {g : List Ch} (h : G.map (·.1) = gs ++ [g]) : ∃ P gv, G = P ++ [(g, gv)] ∧ P.map (·.1) = gs := by
  rcases List.eq_nil_or_concat G with rfl | ⟨P, x, rfl⟩
  · have := congrArg List.length h
    simp at this
  · rw [List.concat_eq_append] at h ⊢
    rw [List.map_append] at h
    have h2 := List.append_inj' h rfl
    obtain ⟨gx, gv⟩ := x
    have h3 : gx = g := by simpa using h2.2
    subst h3
    exact ⟨P, gv, rfl, h2.1⟩

/-- is a change near the one ahead of it? -/
def nrB (ctx : Int) (l : List Ch) (i : Nat) (d : Ch) : Bool := match (l.take i).getLast? with
  | none => false
  | some c => decide (d.A - c.A - c.AN ≤ 2 * ctx)
theorem last_take {l : List Ch} {j : Nat} (hj : j < l.length) : (l.take (j + 1)).getLast? = some l[j] := by
  rw [List.take_succ_eq_append_getElem hj, List.getLast?_append]
  simp
theorem grp_take {ctx : Int} {l : List Ch} {i : Nat} (hi : i < l.length) : (nrB ctx l i l[i] = true → ∃ gs gl, grp ctx (l.take i) = gs ++ [gl] ∧ grp ctx (l.take (i + 1)) = gs ++ [gl ++ [l[i]]]) ∧ (nrB ctx l i l[i] = false → grp ctx (l.take (i + 1)) = grp ctx (l.take i) ++ [[l[i]]]) := by
  cases i with
  | zero =>
    refine ⟨fun h => by simp [nrB] at h, fun _ => ?_⟩
    rw [List.take_succ_eq_append_getElem hi]
    rfl
  | succ j =>
    have e1 : l.take (j + 1) = l.take j ++ [l[j]] := List.take_succ_eq_append_getElem (by omega)
    have e2 : l.take (j + 1 + 1) = l.take j ++ [l[j]] ++ [l[j + 1]] := by rw [List.take_succ_eq_append_getElem hi, e1]
    obtain ⟨gs, g, h1, h2⟩ := grp_snoc ctx (l.take j) l[j] l[j + 1]
    have hn : nrB ctx l (j + 1) l[j + 1] = decide (l[j + 1].A - l[j].A - l[j].AN ≤ 2 * ctx) := by
      unfold nrB
      rw [last_take (by omega)]
    rw [hn, e1, e2, h1, h2]
    refine ⟨fun h => ?_, fun h => ?_⟩
    · rw [if_pos (of_decide_eq_true h)]
      exact ⟨gs, g ++ [l[j]], rfl, rfl⟩
    · rw [if_neg (of_decide_eq_false h)]
theorem lst_more {G : List (List Ch × Value)} {u : World} {w : World} {ov : Value} (h : Gr w ov G u) {g : List Ch} {gv : Value} {b : Nat} (hb : gv.ownBlock = some b) (hs : u.heap.size ≤ b) : Lst (G ++ [(g, gv)]) := by
  intro P' x' he y hy b' hb'
  have he2 := List.append_inj' he rfl
  obtain ⟨rfl, hx'⟩ := he2
  have hx2 : (g, gv) = x' := by simpa using hx'
  subst hx2
  dsimp only at hb'
  rw [hb] at hb'
  cases hb'
  intro e
  have := own_lt (h.ins y hy) e
  omega

set_option maxRecDepth 10000 in
set_option maxHeartbeats 16000000 in
theorem rGroup_f (l : List Ch) (n m ctx : Int) (v : Value) (w : World) (hv : HCh w v l) (hl : l.length ≤ 1099511627776) (hn : n ≤ 9223372036854775807) (hm : m ≤ 9223372036854775807) (z : Int) (HZ : Hid (grpE l n m ctx = z)) (R : List (List Ch)) (HR : Hid (grpR l n m ctx = R)) : Calls Try.prog 9 #[v, .int .i64 n, .int .i64 m, .int .i64 ctx] w fun e w' => ∃ v' G, e = .returned (.tuple #[v', .int .i64 z]) ∧ Gr w v' G w' ∧ G.map (·.1) = R := by
  obtain ⟨vo, lc, rfl⟩ := Holds.form hv
  obtain ⟨ck, hck⟩ : ∃ c, chk l n m = c := ⟨_, rfl⟩
  have HCK : Hid (chk l n m = ck) := hck
  clear hck
  go_enter Try.func9, Try.ntmps9
  go_wp2_with fail
  refine (rCheck_f l n m ck _ w hv hl hn hm HCK).mono ?_
  rintro e W ⟨rfl, hBW⟩
  by_cases hc0 : ck = 0
  · subst hc0
    by_cases hx1 : ctx < 0
    · have HE : Hid (z = 2) := (by
        show _ = _
        rw [← HZ.out]
        unfold grpE
        rw [HCK.out]
        simp [hx1])
      have HRN : Hid (R = []) := (by
        show _ = _
        rw [← HR.out]
        unfold grpR
        rw [HZ.out, HE.out, if_neg (by decide)])
      clear HZ HR HCK
      go_wp2
      go_ret2
      rw [HE.out, HRN.out]
      exact ⟨_, [], rfl, ⟨hBW, hnil_row _ _ _ _, fun _ h => by cases h⟩, rfl⟩
    · have ex1 : decide (ctx < 0) = false := decide_eq_false hx1
      by_cases hx2 : 100 < ctx
      · have HE : Hid (z = 2) := (by
          show _ = _
          rw [← HZ.out]
          unfold grpE
          rw [HCK.out]
          simp [hx2])
        have HRN : Hid (R = []) := (by
          show _ = _
          rw [← HR.out]
          unfold grpR
          rw [HZ.out, HE.out, if_neg (by decide)])
        clear HZ HR HCK
        go_wp2
        go_ret2
        rw [HE.out, HRN.out]
        exact ⟨_, [], rfl, ⟨hBW, hnil_row _ _ _ _, fun _ h => by cases h⟩, rfl⟩
      · have ex2 : decide (100 < ctx) = false := decide_eq_false hx2
        have HZ0 : Hid (z = 0) := (by
          show _ = _
          rw [← HZ.out]
          unfold grpE
          rw [HCK.out]
          simp [hx1, hx2])
        have HR2 : Hid (grp ctx l = R) := (by
          show _ = _
          rw [← HR.out]
          unfold grpR
          rw [HZ.out, HZ0.out, if_pos rfl])
        have HNB : Hid (∀ c ∈ l, numB c = true) := (by
          have h : Script l n m := (by
            have h := HCK.out
            by_cases hq : Script l n m
            · exact hq
            · rw [chk_no hq] at h; cases h)
          exact right_nums h.2.2)
        obtain rfl : z = 0 := HZ0.out
        clear HZ HR HCK HZ0
        go_wp2
        go_loopw [11, 12, 13] (fun ov iv _ wr => ∃ (i : Nat) (G : List (List Ch × Value)), i ≤ l.length ∧ iv = .int .i64 (i : Int) ∧ (∃ oo oc, ov = .slice oo G.length oc) ∧ G.length ≤ i ∧ Gr w ov G wr ∧ Hid (Lst G) ∧ Hid (G.map (·.1) = grp ctx (l.take i))) (fun _ iv _ _ => l.length - (intOf iv).toNat)
        case atStart => exact ⟨0, [], Nat.zero_le _, by go_num, ⟨_, _, rfl⟩, Nat.le_refl _, ⟨hBW, hnil_row _ _ _ _, fun _ h => by cases h⟩, (fun P x he => by simp at he), rfl⟩
        case round =>
          obtain ⟨i, G, hi, rfl, ⟨oo, oc, rfl⟩, hGi, hS, HLst, HI⟩ := hrel
          by_cases hlt : i < l.length
          · obtain ⟨lb, lf, rfl, _, _⟩ := HCh.at hv (by omega)
            have hgAll : ∀ u : World, Below w.heap.size w u → ∀ (j : Nat) (hj : j < l.length), ChAt u lb (lf + j * 4) l[j] := fun u hu j hj => (by
              obtain ⟨b', off', e, _, hc'⟩ := HCh.at (HCh.keep hv hu (Nat.le_refl _)) (by omega)
              cases e
              exact hc' j hj)
            obtain ⟨d, hd⟩ : ∃ d, l[i] = d := ⟨_, rfl⟩
            have hgA : ∀ u : World, Low w u → ChAt u lb (lf + i * 4) d := fun u hu => (by have h := hgAll u hu i hlt; rw [hd] at h; exact h)
            have hnd := (numB_iff d).1 (HNB.out d (by rw [← hd]; exact List.getElem_mem hlt))
            obtain ⟨nr, hnr⟩ : ∃ nr, nrB ctx l i d = nr := ⟨_, rfl⟩
            have HNR : Hid (nrB ctx l i d = nr) := hnr
            have i1 : 0 ≤ (i : Int) := by omega
            have i2 : (i : Int) < (l.length : Int) := by omega
            have HD : Hid (l[i] = d) := hd
            clear hnr hd
            go_upto_region 10 with fail
            go_cut [12, 58] from 27 to 82 (fun iv c wz => iv = .int .i64 (i : Int) ∧ c = .bool nr ∧ ∃ m, wz = wr.drewN m)
            case first =>
              cases i with
              | zero =>
                obtain rfl : nr = false := by rw [← HNR.out]; rfl
                clear HNR HI
                go_quiet (fail)
                go_wp2_with fail
                go_meet
                case rel => exact ⟨by simp, rfl, _, rfl⟩
              | succ j =>
                obtain ⟨c, hc⟩ : ∃ c, l[j]'(by omega) = c := ⟨_, rfl⟩
                have hnc := (numB_iff c).1 (HNB.out c (by rw [← hc]; exact List.getElem_mem _))
                have HNR2 : Hid (decide (d.A - c.A - c.AN ≤ 2 * ctx) = nr) := (by
                  show _ = _
                  rw [← HNR.out]
                  unfold nrB
                  rw [last_take (by omega), hc])
                have hcj := hgAll wr hS.low j (by omega)
                rw [hc] at hcj
                obtain ⟨c0, c1, c2, c3⟩ := hcj
                obtain ⟨d0, d1, d2, d3⟩ := hgA wr hS.low
                have j1 : 0 ≤ (j : Int) := by omega
                have j2 : (j : Int) < (l.length : Int) := by omega
                have j3 : (j : Int) + 1 < (l.length : Int) := by omega
                have j4 : (0 : Int) ≤ (j : Int) + 1 := by omega
                have j5 : decide ((0 : Int) < (j : Int) + 1) = true := decide_eq_true (by omega)
                have w0 : IntKind.i64.wrap ((j : Int) + 1 - 1) = (j : Int) := (by rw [show (j : Int) + 1 - 1 = j by omega]; exact wrap_s (by omega) (by omega))
                have w00 : IntKind.i64.wrap (j : Int) = (j : Int) := wrap_s (by omega) (by omega)
                have w1 : IntKind.i64.wrap (d.A - c.A) = d.A - c.A := wrap_s (by omega) (by omega)
                have w2 : IntKind.i64.wrap (d.A - c.A - c.AN) = d.A - c.A - c.AN := wrap_s (by omega) (by omega)
                have w3 : IntKind.i64.wrap (2 * ctx) = 2 * ctx := wrap_s (by omega) (by omega)
                by_cases hq : d.A - c.A - c.AN ≤ 2 * ctx
                · obtain rfl : nr = true := by rw [← HNR2.out]; exact decide_eq_true hq
                  have eq1 : decide (d.A - c.A - c.AN ≤ 2 * ctx) = true := decide_eq_true hq
                  clear HNR HNR2 HI hc hq
                  go_quiet (fail)
                  go_wp2_with fail
                  go_meet
                  case rel => exact ⟨by simp, rfl, _, rfl⟩
                · obtain rfl : nr = false := by rw [← HNR2.out]; exact decide_eq_false hq
                  have eq1 : decide (d.A - c.A - c.AN ≤ 2 * ctx) = false := decide_eq_false hq
                  clear HNR HNR2 HI hc hq
                  go_quiet (fail)
                  go_wp2_with fail
                  go_meet
                  case rel => exact ⟨by simp, rfl, _, rfl⟩
            case rest =>
              obtain ⟨rfl, rfl, mm, rfl⟩ := hcut
              have hS := hS.drewN mm
              generalize wr.drewN mm = wr at *
              have hgt := grp_take (ctx := ctx) hlt
              rw [HD.out] at hgt
              cases nr with
              | true =>
                obtain ⟨gs, gl, hg1, hg2⟩ := hgt.1 HNR.out
                have hI := HI.out
                rw [hg1] at hI
                obtain ⟨P, gv, rfl, hPm⟩ := map_split hI
                have HN : ∀ gv' : Value, Hid ((P ++ [(gl ++ [d], gv')]).map (·.1) = grp ctx (l.take (i + 1))) := fun gv' => (by
                  show _ = _
                  rw [hg2, List.map_append, hPm]
                  rfl)
                have hPl : P.length + 1 ≤ i := by rw [List.length_append, List.length_singleton] at hGi; exact hGi
                have hgll : gl.length ≤ l.length := (by
                  have hf := grp_flatten ctx (l.take i)
                  rw [hg1] at hf
                  have := congrArg List.length hf
                  simp at this
                  omega)
                have eP : (P ++ [(gl, gv)]).length = P.length + 1 := by simp
                have HEP : Hid ((P ++ [(gl, gv)]).length = P.length + 1) := eP
                rw [eP] at hS ⊢
                clear HI HNR hgt hg1 hg2 hI hPm eP
                go_upto_region 12 with fail
                have hGD := (hS.drewN 1).alloc (chO d)
                have hdr : (wr.drewN 1).heap.size = wr.heap.size := rfl
                have hda : ((wr.drewN 1).alloc (chO d)).heap.size = wr.heap.size + 1 := by simp
                have hsz := hS.low.size
                have hlastown : ((wr.drewN 1).alloc (chO d)).ownsRow w.heap.size 35 4 gv gl.length (chcells gl) := hGD.ins (gl, gv) (by simp)
                obtain ⟨go, gc, hgv⟩ := (holds_of hlastown).form
                subst hgv
                obtain ⟨v3, u3, hr3, hown3, hg3, hb3⟩ := run_append_w ((wr.drewN 1).alloc (chO d)) 22 35 22 (.agg #[.int .i64 0, .int .i64 0, .int .i64 0, .int .i64 0]) 4 32 Try.underlying22 infoCh rfl (by decide) (by decide) w.heap.size _ _ _ hlastown _ 1 (chcells [d]) (ch_row (wr.drewN 1) d) rfl (chcells_one _) (by omega) (by rw [hda]; omega)
                rw [← chcells_append] at hown3
                obtain ⟨p3, q3, hv3⟩ := (holds_of hown3).form
                subst hv3
                obtain ⟨qb, cap, hov, hcell3, hfr3, hG4, hL4⟩ := hGD.last (g' := gl ++ [d]) HLst.out hg3 (by rw [List.length_append]; exact hown3) hb3
                simp only [Value.slice.injEq] at hov
                obtain ⟨rfl, _, rfl⟩ := hov
                have hpl : P.length < P.length + 1 := Nat.lt_succ_self _
                have hcellD : (wr.drewN 1).cell? ⟨qb, 0 + P.length, none⟩ = some (.slice go gl.length gc) := (by
                  have h := hS.own
                  rw [List.length_append, List.length_singleton] at h
                  have := h.cellAt P.length (by omega)
                  rw [Nat.zero_add]
                  rw [show (wr.drewN 1).cell? ⟨qb, P.length, none⟩ = wr.cell? ⟨qb, P.length, none⟩ from rfl, this]
                  simp)
                have hcellA : ((wr.drewN 1).alloc (chO d)).cell? ⟨qb, 0 + P.length, none⟩ = some (.slice go gl.length gc) := (by
                  have h := hGD.own
                  rw [List.length_append, List.length_singleton] at h
                  have := h.cellAt P.length (by omega)
                  rw [Nat.zero_add, this]
                  simp)
                have hLD : Low w (wr.drewN 1) := Below.dN hS.low 1
                have hLA : Low w ((wr.drewN 1).alloc (chO d)) := low_alloc _ hLD
                have hL3 : Low w u3 := Below.grown hLA hg3 (Below.size hLA) (fun j hj => owns_ge hlastown hj)
                have hL5 : Low w (u3.setCell ⟨qb, P.length, none⟩ (.slice p3 (gl.length + 1) q3)) := hG4.low
                clear hown3 hg3 hb3 hlastown
                have HL4 : Hid (Lst (P ++ [(gl ++ [d], .slice p3 (gl.length + 1) q3)])) := hL4
                clear hL4
                refine wp_region_noPanic ?_
                refine wp_region_held_drew (S := fun u => Low w u) (by kernel_rfl) hLD (fun hHeld => ?_)
                refine go_take 0 62 _ (.slice (some ⟨qb, 0, none⟩) (P.length + 1) oc) rfl (by kernel_rfl) (by kernel_rfl) (by kernel_rfl) (by kernel_rfl) (fun _ _ _ h => h) (Or.inl ⟨by kernel_rfl, fun u hu => by kernel_rfl⟩) hHeld ?_
                simp only [Act.put, List.setIfInBounds_toArray, List.set_cons_zero, List.set_cons_succ]
                refine go_take 1 63 _ (.int .i64 (P.length : Int)) rfl (by kernel_rfl) (by kernel_rfl) (by kernel_rfl) (by kernel_rfl) (fun _ _ _ h => h) (Or.inl ⟨by kernel_rfl, fun u hu => by kernel_rfl⟩) hHeld ?_
                simp only [Act.put, List.setIfInBounds_toArray, List.set_cons_zero, List.set_cons_succ]
                refine go_take 2 64 _ (.slice (some ⟨qb, 0, none⟩) (P.length + 1) oc) rfl (by kernel_rfl) (by kernel_rfl) (by kernel_rfl) (by kernel_rfl) (fun _ _ _ h => h) (Or.inl ⟨by kernel_rfl, fun u hu => by kernel_rfl⟩) hHeld ?_
                simp only [Act.put, List.setIfInBounds_toArray, List.set_cons_zero, List.set_cons_succ]
                refine go_take 3 65 _ (.int .i64 (P.length : Int)) rfl (by kernel_rfl) (by kernel_rfl) (by kernel_rfl) (by kernel_rfl) (fun _ _ _ h => h) (Or.inl ⟨by kernel_rfl, fun u hu => by kernel_rfl⟩) hHeld ?_
                simp only [Act.put, List.setIfInBounds_toArray, List.set_cons_zero, List.set_cons_succ]
                refine go_take 4 66 _ (.pointer (some ⟨qb, 0 + P.length, none⟩)) rfl (by kernel_rfl) (by kernel_rfl) (by kernel_rfl) (by kernel_rfl) (fun _ _ _ h => h) (Or.inl ⟨by kernel_rfl, fun u hu => exec_ixG (c := oc) (i := P.length) hpl (.tmp 64) (.tmp 65) (by kernel_rfl) (by kernel_rfl) (by kernel_rfl)⟩) hHeld ?_
                simp only [Act.put, List.setIfInBounds_toArray, List.set_cons_zero, List.set_cons_succ]
                refine go_take 6 68 _ (.slice (some ⟨lb, lf, none⟩) l.length lc) rfl (by kernel_rfl) (by kernel_rfl) (by kernel_rfl) (by kernel_rfl) (fun _ _ _ h => h) (Or.inl ⟨by kernel_rfl, fun u hu => by kernel_rfl⟩) hHeld ?_
                simp only [Act.put, List.setIfInBounds_toArray, List.set_cons_zero, List.set_cons_succ]
                refine go_take 7 69 _ (.int .i64 (i : Int)) rfl (by kernel_rfl) (by kernel_rfl) (by kernel_rfl) (by kernel_rfl) (fun _ _ _ h => h) (Or.inl ⟨by kernel_rfl, fun u hu => by kernel_rfl⟩) hHeld ?_
                simp only [Act.put, List.setIfInBounds_toArray, List.set_cons_zero, List.set_cons_succ]
                refine go_take 8 70 _ (.pointer (some ⟨lb, lf + i * 4, none⟩)) rfl (by kernel_rfl) (by kernel_rfl) (by kernel_rfl) (by kernel_rfl) (fun _ _ _ h => h) (Or.inl ⟨by kernel_rfl, fun u hu => exec_ixC (c := lc) (i := i) hlt (.tmp 68) (.tmp 69) (by kernel_rfl) (by kernel_rfl) (by kernel_rfl)⟩) hHeld ?_
                simp only [Act.put, List.setIfInBounds_toArray, List.set_cons_zero, List.set_cons_succ]
                refine go_take 9 71 _ (chV d) rfl (by kernel_rfl) (by kernel_rfl) (by kernel_rfl) (by kernel_rfl) (fun _ _ _ h => h) (Or.inl ⟨by kernel_rfl, fun u hu => load_chR (hgA u hu) (.tmp 70) (by kernel_rfl) (by kernel_rfl)⟩) hHeld ?_
                simp only [Act.put, List.setIfInBounds_toArray, List.set_cons_zero, List.set_cons_succ]
                refine go_two 5 67 _ 10 72 _ rfl (by kernel_rfl) rfl (by kernel_rfl) (by kernel_rfl) (by kernel_rfl) (by kernel_rfl) (.slice go gl.length gc) (wr.drewN 1) (load_chs hcellD (.tmp 66) (by kernel_rfl) (by kernel_rfl)) hLD (.slice (some ⟨(wr.drewN 1).heap.size, 0, none⟩) 1 1) ((wr.drewN 1).alloc (chO d)) (by kernel_rfl) hLA ?_ ?_
                · simp only [Act.put, List.setIfInBounds_toArray, List.set_cons_zero, List.set_cons_succ]
                  refine go_val 10 72 _ rfl (by kernel_rfl) (by kernel_rfl) (by kernel_rfl) (.slice (some ⟨(wr.drewN 1).heap.size, 0, none⟩) 1 1) ((wr.drewN 1).alloc (chO d)) (by kernel_rfl) hLA ?_
                  simp only [Act.put, List.setIfInBounds_toArray, List.set_cons_zero, List.set_cons_succ]
                  refine go_val 11 73 _ rfl (by kernel_rfl) (by kernel_rfl) (by kernel_rfl) (.slice p3 (gl.length + 1) q3) u3 (exec_app (.tmp 67) (.tmp 72) (by kernel_rfl) (by kernel_rfl) (by kernel_rfl) hr3) hL3 ?_
                  simp only [Act.put, List.setIfInBounds_toArray, List.set_cons_zero, List.set_cons_succ]
                  refine go_take 12 74 _ (.pointer (some ⟨qb, 0 + P.length, none⟩)) rfl (by kernel_rfl) (by kernel_rfl) (by kernel_rfl) (by kernel_rfl) (fun _ _ _ h => h) (Or.inl ⟨by kernel_rfl, fun u hu => exec_ixG (c := oc) (i := P.length) hpl (.tmp 62) (.tmp 63) (by kernel_rfl) (by kernel_rfl) (by kernel_rfl)⟩) hL3 ?_
                  simp only [Act.put, List.setIfInBounds_toArray, List.set_cons_zero, List.set_cons_succ]
                  simp only [Nat.zero_add]
                  refine go_skip 13 _ rfl (by kernel_rfl) (by kernel_rfl) (by kernel_rfl) (u3.setCell ⟨qb, P.length, none⟩ (.slice p3 (gl.length + 1) q3)) (exec_storeG hfr3 hcell3 (.tmp 74) (.tmp 73) (by kernel_rfl) (by kernel_rfl) (by kernel_rfl)) hL5 ?_
                  refine wpAnyH_done (by kernel_rfl) ?_ _
                  refine NoPanic.normal ?_
                  go_wp2
                  exact ⟨⟨i + 1, P ++ [(gl ++ [d], .slice p3 (gl.length + 1) q3)], by omega, by go_num, ⟨_, _, by rw [List.length_append, List.length_singleton]⟩, by rw [List.length_append, List.length_singleton]; omega, hG4, HL4, HN _⟩, by simp [intOf]; omega⟩
                · simp only [Act.put, List.setIfInBounds_toArray, List.set_cons_zero, List.set_cons_succ]
                  refine go_val 5 67 _ rfl (by kernel_rfl) (by kernel_rfl) (by kernel_rfl) (.slice go gl.length gc) ((wr.drewN 1).alloc (chO d)) (load_chs hcellA (.tmp 66) (by kernel_rfl) (by kernel_rfl)) hLA ?_
                  simp only [Act.put, List.setIfInBounds_toArray, List.set_cons_zero, List.set_cons_succ]
                  refine go_val 11 73 _ rfl (by kernel_rfl) (by kernel_rfl) (by kernel_rfl) (.slice p3 (gl.length + 1) q3) u3 (exec_app (.tmp 67) (.tmp 72) (by kernel_rfl) (by kernel_rfl) (by kernel_rfl) hr3) hL3 ?_
                  simp only [Act.put, List.setIfInBounds_toArray, List.set_cons_zero, List.set_cons_succ]
                  refine go_take 12 74 _ (.pointer (some ⟨qb, 0 + P.length, none⟩)) rfl (by kernel_rfl) (by kernel_rfl) (by kernel_rfl) (by kernel_rfl) (fun _ _ _ h => h) (Or.inl ⟨by kernel_rfl, fun u hu => exec_ixG (c := oc) (i := P.length) hpl (.tmp 62) (.tmp 63) (by kernel_rfl) (by kernel_rfl) (by kernel_rfl)⟩) hL3 ?_
                  simp only [Act.put, List.setIfInBounds_toArray, List.set_cons_zero, List.set_cons_succ]
                  simp only [Nat.zero_add]
                  refine go_skip 13 _ rfl (by kernel_rfl) (by kernel_rfl) (by kernel_rfl) (u3.setCell ⟨qb, P.length, none⟩ (.slice p3 (gl.length + 1) q3)) (exec_storeG hfr3 hcell3 (.tmp 74) (.tmp 73) (by kernel_rfl) (by kernel_rfl) (by kernel_rfl)) hL5 ?_
                  refine wpAnyH_done (by kernel_rfl) ?_ _
                  refine NoPanic.normal ?_
                  go_wp2
                  exact ⟨⟨i + 1, P ++ [(gl ++ [d], .slice p3 (gl.length + 1) q3)], by omega, by go_num, ⟨_, _, by rw [List.length_append, List.length_singleton]⟩, by rw [List.length_append, List.length_singleton]; omega, hG4, HL4, HN _⟩, by simp [intOf]; omega⟩
              | false =>
                have hg2 := hgt.2 HNR.out
                obtain ⟨d0, d1, d2, d3⟩ := hgA wr hS.low
                have hsz := hS.low.size
                have HN : ∀ gv' : Value, Hid ((G ++ [([d], gv')]).map (·.1) = grp ctx (l.take (i + 1))) := fun gv' => (by
                  show _ = _
                  rw [hg2, List.map_append, HI.out]
                  rfl)
                have hS1 := hS.alloc (chO d)
                have ho1 := ch_own wr w.heap.size d hsz
                have HS1 : Hid ((wr.alloc (chO d)).heap.size = wr.heap.size + 1) := (by show _ = _; simp)
                have hW1 : wr.alloc (Obj.cells #[Value.int IntKind.i64 d.A, Value.int IntKind.i64 d.AN, Value.int IntKind.i64 d.B, Value.int IntKind.i64 d.BN] 35) = wr.alloc (chO d) := rfl
                have hGl : G.length ≤ 1099511627776 := by omega
                clear HI HNR hgt hg2
                generalize wr.alloc (chO d) = wr1 at *
                have hS2 := hS1.alloc (.cells #[.slice (some ⟨wr.heap.size, 0, none⟩) 1 1] 22)
                have ho2 := ho1.alloc (.cells #[.slice (some ⟨wr.heap.size, 0, none⟩) 1 1] 22)
                have hrow2 := new_holds wr1 #[.slice (some ⟨wr.heap.size, 0, none⟩) 1 1] 22 1 1 (by decide)
                have HS2 : Hid ((wr1.alloc (.cells #[.slice (some ⟨wr.heap.size, 0, none⟩) 1 1] 22)).heap.size = wr1.heap.size + 1) := (by show _ = _; simp)
                go_wp2_with (at_builtin; refine wpList_append_w _ (by kernel_rfl) (.tmp 75) (.tmp 81) 28 22 (.slice none 0 0) 1 24 rfl Try.underlying28 infoCs rfl (by decide) (by decide) w.heap.size _ _ _ rfl hS2.own _ 1 [.slice (some ⟨wr.heap.size, 0, none⟩) 1 1] rfl hrow2 rfl (by intro u hu; simp at hu; subst hu; rfl) (by omega) (by have := HS2.out; have := HS1.out; omega) ?_)
                intro v3 u3 hown3 hg3 _
                have hS3 := hS2.more (g := [d]) ho2 hg3 (ov' := v3) hown3
                have HL3 : Hid (Lst (G ++ [([d], Value.slice (some ⟨wr.heap.size, 0, none⟩) 1 1)])) := lst_more (g := [d]) hS (gv := .slice (some ⟨wr.heap.size, 0, none⟩) 1 1) rfl (Nat.le_refl _)
                obtain ⟨o3, c3, rfl⟩ := (holds_of hown3).form
                clear hown3 hg3
                go_wp2
                exact ⟨⟨i + 1, G ++ [([d], .slice (some ⟨wr.heap.size, 0, none⟩) 1 1)], by omega, by go_num, ⟨_, _, by rw [List.length_append, List.length_singleton]⟩, by rw [List.length_append, List.length_singleton]; omega, hS3, HL3, HN _⟩, by simp [intOf]; omega⟩
          · have HIe : Hid (G.map (·.1) = R) := (by
              show _ = _
              rw [HI.out, List.take_of_length_le (by omega)]
              exact HR2.out)
            have hend : decide ((i : Int) < (l.length : Int)) = false := decide_eq_false (by omega)
            clear HI
            go_wp2
            go_ret2
            exact ⟨_, G, rfl, hS, HIe.out⟩
  · have hc1 : (ck != 0) = true := by simpa using hc0
    have HE : Hid (z = ck) := (by
      show _ = _
      rw [← HZ.out]
      unfold grpE
      rw [HCK.out]
      simp [hc0])
    have HRN : Hid (R = []) := (by
      show _ = _
      rw [← HR.out]
      unfold grpR
      rw [HZ.out, HE.out, if_neg (by exact hc0)])
    clear HZ HR HCK hc0
    go_wp2
    go_ret2
    rw [HE.out, HRN.out]
    exact ⟨_, [], rfl, ⟨hBW, hnil_row _ _ _ _, fun _ h => by cases h⟩, rfl⟩
end Go.Proofs.Ythckcdpgjdbgcaa

/- The code's small functions of layer 11, walked: the lines of a side, numbers, places, signs. -/
namespace Go.Proofs.Ythckcdpgjdbgcaa
open Go.RowKit

/-- which sign a side has, and which it has not -/
def Sd (sg no : Int) : Prop := sg = 45 ∧ no = 43 ∨ sg = 43 ∧ no = 45
theorem sd_iff {sg no : Int} (h : Sd sg no) (s : Int) : (s ≠ no ∧ okS s = true) ↔ (s = 32 ∨ s = sg) := by
  simp only [okS, Bool.or_eq_true, decide_eq_true_eq]
  rcases h with ⟨rfl, rfl⟩ | ⟨rfl, rfl⟩ <;> omega
theorem pk_take {sg no : Int} (h : Sd sg no) {s : Int} (hs : s = 32 ∨ s = sg) {out R : List (List UInt8)} {tx : List UInt8} {l : List Mk} (hI : out ++ (if s ≠ no ∧ okS s = true then tx :: pkL no l else pkL no l) = R) : out ++ [tx] ++ pkL no l = R := by
  rw [if_pos ((sd_iff h s).2 hs)] at hI
  rw [← hI]
  simp
theorem pk_pass {sg no : Int} (h : Sd sg no) {s : Int} (h1 : s ≠ 32) (h2 : s ≠ sg) {out R : List (List UInt8)} {tx : List UInt8} {l : List Mk} (hI : out ++ (if s ≠ no ∧ okS s = true then tx :: pkL no l else pkL no l) = R) : out ++ pkL no l = R := by
  rw [if_neg (fun q => by rcases (sd_iff h s).1 q with q | q <;> contradiction)] at hI
  exact hI

set_option maxHeartbeats 2000000 in
theorem hside_f (h : Hk) (v : Value) (sd no : Int) (HSD : Hid (Sd sd no)) (w : World) (hv : HMk w v h.ls) (hl : h.ls.length ≤ 1099511627776) (R : List (List UInt8)) (HR : Hid (pkL no h.ls = R)) : Calls Try.prog 31 #[hkV h v, .int .u8 sd] w fun e w' => ∃ v', e = .returned v' ∧ HS w' v' R ∧ Below w.heap.size w w' := by
  obtain ⟨A, AN, B, BN, ls⟩ := h
  dsimp only at hv hl HR
  obtain ⟨lo, lc, rfl⟩ := HMk.form hv
  have hx := Hx.new w ⟨A, AN, B, BN, ls⟩ (.slice lo ls.length lc)
  have hBl : Below w.heap.size w (w.alloc (hkO ⟨A, AN, B, BN, ls⟩ (.slice lo ls.length lc))) := (Below.refl _ w).alloc (Nat.le_refl _) _
  have hv1 := HMk.keep hv hBl (Nat.le_refl _)
  obtain ⟨_, _, _, _, x4⟩ := hx.cells
  have hW : w.alloc (Obj.cells #[Value.int IntKind.i64 A, Value.int IntKind.i64 AN, Value.int IntKind.i64 B, Value.int IntKind.i64 BN, .slice lo ls.length lc] 39) = w.alloc (hkO ⟨A, AN, B, BN, ls⟩ (.slice lo ls.length lc)) := rfl
  have HSZ : Hid ((w.alloc (hkO ⟨A, AN, B, BN, ls⟩ (.slice lo ls.length lc))).heap.size = w.heap.size + 1) := (by show _ = _; simp)
  unfold hkV
  dsimp only
  clear hv hx
  generalize w.alloc (hkO ⟨A, AN, B, BN, ls⟩ (.slice lo ls.length lc)) = W at *
  go_enter Try.func31, Try.ntmps31
  go_wp2
  clear hW x4
  go_loopw [5, 11] (fun ov iv wr => ∃ (k : Nat) (out : List (List UInt8)), k ≤ ls.length ∧ out.length ≤ k ∧ iv = .int .i64 (k : Int) ∧ (∃ oo oc, ov = .slice oo out.length oc) ∧ St W 9 1 ov out.length (scells out) wr ∧ Hid (out ++ pkL no (ls.drop k) = R)) (fun _ iv _ => ls.length - (intOf iv).toNat)
  case atStart => exact ⟨0, [], Nat.zero_le _, Nat.le_refl _, by go_num, ⟨_, _, rfl⟩, ⟨hnil_row _ _ _ _, Below.refl _ _⟩, HR⟩
  case round =>
    obtain ⟨k, out, hk, hok, rfl, ⟨oo, oc, rfl⟩, hS, HI⟩ := hrel
    by_cases hlt : k < ls.length
    · obtain ⟨b, off, rfl, hb, _⟩ := HMk.at hv1 (by omega)
      obtain ⟨m, hm⟩ : ∃ m, ls[k] = m := ⟨_, rfl⟩
      obtain ⟨c0, c1⟩ := Low.mk hS.low hv1 k hlt hm
      have HI2 : Hid (out ++ (if m.sg ≠ no ∧ okS m.sg = true then m.tx :: pkL no (ls.drop (k + 1)) else pkL no (ls.drop (k + 1))) = R) := (by
        show _ = _
        rw [← HI.out, List.drop_eq_getElem_cons hlt, hm]
        rfl)
      have i1 : 0 ≤ (k : Int) := by omega
      have i2 : (k : Int) < (ls.length : Int) := by omega
      obtain ⟨m0, m1⟩ := (Mx.new wr m).cells
      have hS1 := st_alloc (mkO m) hS
      have hsS := hS.low.size
      have HSM : Hid ((wr.alloc (mkO m)).heap.size = wr.heap.size + 1) := (by show _ = _; simp)
      have hW2 : wr.alloc (Obj.cells #[Value.int IntKind.u8 m.sg, Value.string ⟨m.tx.toArray⟩] 46) = wr.alloc (mkO m) := rfl
      clear HI hm HR
      go_upto_region 5 with fail
      obtain ⟨sg, tx⟩ := m
      dsimp only at m0 m1 c0 c1 HI2 hW2
      generalize hwr1 : wr.alloc (mkO ⟨sg, tx⟩) = wr1 at *
      clear hW2
      have hs1 := hS1.low.size
      by_cases h1 : sg = 32
      · subst h1
        have HI3 : Hid (out ++ [tx] ++ pkL no (ls.drop (k + 1)) = R) := pk_take HSD.out (.inl rfl) HI2.out
        clear HI2
        go_wp2_with (at_builtin; refine wpList_append_h _ (by kernel_rfl) (.tmp 24) (.tmp 27) 23 9 (.string ⟨#[]⟩) 1 16 rfl Try.underlying23 infoStr rfl (by decide) (by decide) W.heap.size _ _ _ rfl (hS1.own.alloc _) _ 1 (scells [tx]) rfl (new_holds _ _ _ _ _ (by decide)) rfl (scells_one _) (by omega) (by simp; omega) ?_)
        intro v2 w2 hown2 hgrow2
        have hB2 : Below W.heap.size W w2 := (hS1.low.alloc hS1.low.size _).grown hgrow2 (by simp; omega) (fun _ hj => owns_ge hS1.own hj)
        rw [← scells_append] at hown2
        obtain ⟨oo2, oc2, rfl⟩ := (holds_of hown2).form
        clear hgrow2
        go_wp2
        exact ⟨⟨k + 1, out ++ [tx], by omega, by simp; omega, by go_num, ⟨_, _, by rw [List.length_append]; rfl⟩, ⟨by rw [List.length_append]; exact hown2, hB2⟩, HI3⟩, by simp [intOf]; omega⟩
      · have e1 : (sg == 32) = false := by simpa using h1
        by_cases h2 : sg = sd
        · subst h2
          have HI3 : Hid (out ++ [tx] ++ pkL no (ls.drop (k + 1)) = R) := pk_take HSD.out (.inr rfl) HI2.out
          clear HI2 h1
          go_wp2_with (at_builtin; refine wpList_append_h _ (by kernel_rfl) (.tmp 24) (.tmp 27) 23 9 (.string ⟨#[]⟩) 1 16 rfl Try.underlying23 infoStr rfl (by decide) (by decide) W.heap.size _ _ _ rfl (hS1.own.alloc _) _ 1 (scells [tx]) rfl (new_holds _ _ _ _ _ (by decide)) rfl (scells_one _) (by omega) (by simp; omega) ?_)
          intro v2 w2 hown2 hgrow2
          have hB2 : Below W.heap.size W w2 := (hS1.low.alloc hS1.low.size _).grown hgrow2 (by simp; omega) (fun _ hj => owns_ge hS1.own hj)
          rw [← scells_append] at hown2
          obtain ⟨oo2, oc2, rfl⟩ := (holds_of hown2).form
          clear hgrow2
          go_wp2
          exact ⟨⟨k + 1, out ++ [tx], by omega, by simp; omega, by go_num, ⟨_, _, by rw [List.length_append]; rfl⟩, ⟨by rw [List.length_append]; exact hown2, hB2⟩, HI3⟩, by simp [intOf]; omega⟩
        · have e2 : (sg == sd) = false := by simpa using h2
          have HI3 : Hid (out ++ pkL no (ls.drop (k + 1)) = R) := pk_pass HSD.out h1 h2 HI2.out
          clear HI2 h1 h2
          go_wp2
          exact ⟨⟨k + 1, out, by omega, by omega, by go_num, ⟨_, _, rfl⟩, hS1, HI3⟩, by simp [intOf]; omega⟩
    · have HI3 : Hid (out = R) := (by
        have h := HI.out
        rw [List.drop_of_length_le (by omega)] at h
        show out = R
        simpa [pkL] using h)
      clear HI
      have hend : decide ((k : Int) < (ls.length : Int)) = false := decide_eq_false (by omega)
      go_wp2
      go_ret
      refine ⟨_, rfl, ?_, hBl.trans (hS.low.mono (by have := HSZ.out; omega))⟩
      rw [← HI3.out]
      exact holds_of hS.own
theorem hOld_f (h : Hk) (v : Value) (w : World) (hv : HMk w v h.ls) (hl : h.ls.length ≤ 1099511627776) (R : List (List UInt8)) (HR : Hid (oldL h = R)) : Calls Try.prog 14 #[hkV h v] w fun e w' => ∃ v', e = .returned v' ∧ HS w' v' R ∧ Below w.heap.size w w' := by
  have hBl : Below w.heap.size w (w.alloc (hkO h v)) := (Below.refl _ w).alloc (Nat.le_refl _) _
  have hv1 := HMk.keep hv hBl (Nat.le_refl _)
  obtain ⟨c0, c1, c2, c3, c4⟩ := (Hx.new w h v).cells
  unfold hkO at c0 c1 c2 c3 c4 hBl hv1
  obtain ⟨lo, lc, rfl⟩ := HMk.form hv
  have e : hkV h (.slice lo h.ls.length lc) = .agg #[.int .i64 h.A, .int .i64 h.AN, .int .i64 h.B, .int .i64 h.BN, .slice lo h.ls.length lc] := rfl
  rw [e]
  go_enter Try.func14, Try.ntmps14
  go_wp2_with fail
  refine (hside_f h _ 45 43 (.inl ⟨rfl, rfl⟩) _ hv1 hl R HR).mono ?_
  rintro e w1 ⟨v1, rfl, hv1, hB1⟩
  obtain ⟨vo, vc, rfl⟩ := Holds.form hv1
  go_wp2
  go_ret
  exact ⟨_, rfl, hv1, hBl.trans (hB1.mono hBl.size)⟩
theorem hNew_f (h : Hk) (v : Value) (w : World) (hv : HMk w v h.ls) (hl : h.ls.length ≤ 1099511627776) (R : List (List UInt8)) (HR : Hid (newL h = R)) : Calls Try.prog 15 #[hkV h v] w fun e w' => ∃ v', e = .returned v' ∧ HS w' v' R ∧ Below w.heap.size w w' := by
  have hBl : Below w.heap.size w (w.alloc (hkO h v)) := (Below.refl _ w).alloc (Nat.le_refl _) _
  have hv1 := HMk.keep hv hBl (Nat.le_refl _)
  obtain ⟨c0, c1, c2, c3, c4⟩ := (Hx.new w h v).cells
  unfold hkO at c0 c1 c2 c3 c4 hBl hv1
  obtain ⟨lo, lc, rfl⟩ := HMk.form hv
  have e : hkV h (.slice lo h.ls.length lc) = .agg #[.int .i64 h.A, .int .i64 h.AN, .int .i64 h.B, .int .i64 h.BN, .slice lo h.ls.length lc] := rfl
  rw [e]
  go_enter Try.func15, Try.ntmps15
  go_wp2_with fail
  refine (hside_f h _ 43 45 (.inr ⟨rfl, rfl⟩) _ hv1 hl R HR).mono ?_
  rintro e w1 ⟨v1, rfl, hv1, hB1⟩
  obtain ⟨vo, vc, rfl⟩ := Holds.form hv1
  go_wp2
  go_ret
  exact ⟨_, rfl, hv1, hBl.trans (hB1.mono hBl.size)⟩

/-- may a hunk say that number of its lines? -/
def nmB (a n : Int) : Bool := nat31 a && nat31 n && !(decide (a = 0) && decide (0 < n))
theorem hnumbered_f (a n : Int) (w : World) (r : Bool) (HR : Hid (nmB a n = r)) : Calls Try.prog 32 #[.int .i64 a, .int .i64 n] w fun e w' => e = .returned (.bool r) ∧ w' = w := by
  have hr : r = true ↔ (0 ≤ a ∧ a ≤ 2147483647 ∧ 0 ≤ n ∧ n ≤ 2147483647 ∧ (0 < a ∨ n = 0)) := by
    rw [← HR.out]
    unfold nmB nat31
    simp only [Bool.and_eq_true, decide_eq_true_eq, Bool.not_eq_true', Bool.and_eq_false_iff, decide_eq_false_iff_not]
    omega
  have HRR : Hid (r = true ↔ (0 ≤ a ∧ a ≤ 2147483647 ∧ 0 ≤ n ∧ n ≤ 2147483647 ∧ (0 < a ∨ n = 0))) := hr
  clear hr HR
  have no : ∀ {p : Prop}, p → (p → ¬ (0 ≤ a ∧ a ≤ 2147483647 ∧ 0 ≤ n ∧ n ≤ 2147483647 ∧ (0 < a ∨ n = 0))) → Ending.returned (.bool false) = .returned (.bool r) := fun hp h => by
    cases r with
    | false => rfl
    | true => exact absurd (HRR.out.1 rfl) (h hp)
  go_enter Try.func32, Try.ntmps32
  by_cases h1 : a < 0
  · go_wp2
    go_ret
    exact ⟨no h1 (fun _ => by omega), rfl⟩
  · have e1 : decide (a < 0) = false := decide_eq_false h1
    by_cases h2 : 2147483647 < a
    · go_wp2
      go_ret
      exact ⟨no h2 (fun _ => by omega), rfl⟩
    · have e2 : decide (2147483647 < a) = false := decide_eq_false h2
      by_cases h3 : n < 0
      · go_wp2
        go_ret
        exact ⟨no h3 (fun _ => by omega), rfl⟩
      · have e3 : decide (n < 0) = false := decide_eq_false h3
        by_cases h4 : 2147483647 < n
        · go_wp2
          go_ret
          exact ⟨no h4 (fun _ => by omega), rfl⟩
        · have e4 : decide (2147483647 < n) = false := decide_eq_false h4
          by_cases h5 : 0 < a
          · obtain rfl : r = true := HRR.out.2 (by omega)
            go_wp2
            go_ret
            exact ⟨rfl, rfl⟩
          · have e5 : decide (0 < a) = false := decide_eq_false h5
            by_cases h6 : n = 0
            · obtain rfl : r = true := HRR.out.2 (by omega)
              subst h6
              go_wp2
              go_ret
              exact ⟨rfl, rfl⟩
            · have e6 : (n == 0) = false := by simpa using h6
              go_wp2
              go_ret
              exact ⟨no h6 (fun _ => by omega), rfl⟩
theorem hplaceOf_f (a n : Int) (w : World) (h1 : -4611686018427387904 ≤ a) (h2 : a ≤ 9223372036854775807) (r : Int) (HR : Hid ((if 0 < n then a - 1 else a) = r)) : Calls Try.prog 41 #[.int .i64 a, .int .i64 n] w fun e w' => e = .returned (.int .i64 r) ∧ w' = w := by
  have hr := HR.out
  clear HR
  go_enter Try.func41, Try.ntmps41
  by_cases h : 0 < n
  · rw [if_pos h] at hr
    subst hr
    go_wp2
    go_ret
    exact ⟨by go_num, rfl⟩
  · rw [if_neg h] at hr
    subst hr
    have e : decide (0 < n) = false := decide_eq_false h
    go_wp2
    go_ret
    exact ⟨rfl, rfl⟩
theorem hnumberOf_f (a n : Int) (w : World) (h1 : -4611686018427387904 ≤ a) (h2 : a ≤ 4611686018427387904) (r : Int) (HR : Hid ((if 0 < n then a + 1 else a) = r)) : Calls Try.prog 44 #[.int .i64 a, .int .i64 n] w fun e w' => e = .returned (.int .i64 r) ∧ w' = w := by
  have hr := HR.out
  clear HR
  go_enter Try.func44, Try.ntmps44
  by_cases h : 0 < n
  · rw [if_pos h] at hr
    subst hr
    go_wp2
    go_ret
    exact ⟨by go_num, rfl⟩
  · rw [if_neg h] at hr
    subst hr
    have e : decide (0 < n) = false := decide_eq_false h
    go_wp2
    go_ret
    exact ⟨rfl, rfl⟩
/-- is a line changed? is its sign none? -/
def chgB (m : Mk) : Bool := decide (m.sg = 45) || decide (m.sg = 43)
theorem hchanged_f (m : Mk) (w : World) : Calls Try.prog 36 #[.agg #[.int .u8 m.sg, .string ⟨m.tx.toArray⟩]] w fun e w' => e = .returned (.bool (chgB m)) ∧ Below w.heap.size w w' := by
  obtain ⟨sg, tx⟩ := m
  obtain ⟨m0, m1⟩ := (Mx.new w ⟨sg, tx⟩).cells
  have hB : Below w.heap.size w (w.alloc (mkO ⟨sg, tx⟩)) := (Below.refl _ w).alloc (Nat.le_refl _) _
  unfold mkO at m0 m1 hB
  dsimp only at m0 m1 hB
  unfold chgB
  by_cases h1 : sg = 45
  · subst h1
    go_enter Try.func36, Try.ntmps36
    go_wp2
    go_ret
    exact ⟨rfl, hB⟩
  · have e1 : (sg == 45) = false := by simpa using h1
    by_cases h2 : sg = 43
    · subst h2
      go_enter Try.func36, Try.ntmps36
      go_wp2
      go_ret
      exact ⟨rfl, hB⟩
    · have e2 : (sg == 43) = false := by simpa using h2
      have HE : Hid ((decide (sg = 45) || decide (sg = 43)) = false) := (by show _ = _; simp [h1, h2])
      rw [HE.out]
      clear HE h1 h2
      go_enter Try.func36, Try.ntmps36
      go_wp2
      go_ret
      exact ⟨rfl, hB⟩
theorem hstrange_f (m : Mk) (w : World) : Calls Try.prog 34 #[.agg #[.int .u8 m.sg, .string ⟨m.tx.toArray⟩]] w fun e w' => e = .returned (.bool (!okS m.sg)) ∧ Below w.heap.size w w' := by
  obtain ⟨m0, m1⟩ := (Mx.new w m).cells
  have hB : Below w.heap.size w (w.alloc (mkO m)) := (Below.refl _ w).alloc (Nat.le_refl _) _
  have hW : w.alloc (.cells #[.int .u8 m.sg, .string ⟨m.tx.toArray⟩] 46) = w.alloc (mkO m) := rfl
  generalize w.alloc (mkO m) = W at *
  by_cases h1 : m.sg = 32
  · have HE : Hid (okS m.sg = true) := (by show _ = _; rw [h1]; rfl)
    rw [HE.out]
    have e1 : (m.sg != 32) = false := by simpa using h1
    clear HE h1
    go_enter Try.func34, Try.ntmps34
    go_wp2
    go_ret
    exact ⟨rfl, hB⟩
  · have e1 : (m.sg != 32) = true := by simpa using h1
    obtain ⟨r, hr⟩ : ∃ r, chgB m = r := ⟨_, rfl⟩
    have HE : Hid (okS m.sg = r) := (by
      show _ = _
      rw [← hr]
      unfold okS chgB
      simp [h1])
    have HC := hchanged_f m W
    rw [hr] at HC
    rw [HE.out]
    clear HE h1 hr
    go_enter Try.func34, Try.ntmps34
    go_wp2_with fail
    refine HC.mono ?_
    rintro e w1 ⟨rfl, hB1⟩
    go_wp2
    go_ret
    exact ⟨rfl, hB.trans (hB1.mono hB.size)⟩
end Go.Proofs.Ythckcdpgjdbgcaa

/- What an argument of type []int, []api.Change holds, and how much of it there is by the statement's own count. -/
namespace Go.Proofs.Ythckcdpgjdbgcaa
open Go.ChangeShapes Go.WideShapes Go.ChangeAt Go.RowKit

theorem own : ownKnob Try.prog.godebug = none := by kernel_rfl
theorem laidOut : laidOutB Try.prog = true := by kernel_rfl
theorem cellsInt : Try.prog.cellsOf 3 = 1 := by kernel_rfl
theorem cellsCh : Try.prog.cellsOf 35 = 4 := by kernel_rfl

/-- numbers that an int holds -/
def w64 (z : Int) : Prop := -9223372036854775808 ≤ z ∧ z ≤ 9223372036854775807
theorem w64_of {z : Int} (h : (Lit.int .i64 z).wf = true) : w64 z := bounds_i64 h
/-- a change of numbers that an int holds -/
def wCh (c : Ch) : Prop := w64 c.A ∧ w64 c.AN ∧ w64 c.B ∧ w64 c.BN

theorem lits_len {H : Type} (l : List Int) : l.length ≤ Rows.uptoBulkAll (lits (H := H) .i64 l) := by
  induction l with
  | nil => simp [lits, Rows.uptoBulkAll]
  | cons s t ih =>
    have e : lits (H := H) .i64 (s :: t) = .lit (.int .i64 s) :: lits .i64 t := rfl
    rw [e]
    simp only [Rows.uptoBulkAll, Rows.uptoBulk, List.length_cons]
    omega

theorem bulk_range {H : Type} (D : Nat → DataW H) (n : Nat) (h : ∀ i, i < n → 1 ≤ Rows.uptoBulk (D i)) : n ≤ Rows.uptoBulkAll ((List.range n).map D) := by
  have hall : ∀ l : List (DataW H), (∀ d ∈ l, 1 ≤ Rows.uptoBulk d) → l.length ≤ Rows.uptoBulkAll l := by
    intro l
    induction l with
    | nil => simp
    | cons d t ih =>
      intro hd
      have h1 := hd d (List.mem_cons_self ..)
      have h2 := ih fun x hx => hd x (List.mem_cons_of_mem _ hx)
      rw [Rows.uptoBulkAll]
      simp only [List.length_cons]
      omega
  have := hall ((List.range n).map D) (by
    intro d hd
    simp only [List.mem_map, List.mem_range] at hd
    obtain ⟨i, hi, rfl⟩ := hd
    exact h i hi)
  simpa using this

set_option maxRecDepth 10000 in
/-- the changes that an argument holds -/
theorem open_chs {H : Type} {enc : TypeId × Value → H} {W : World} {fuel : Nat} {ao : Option Addr} {len cap : Nat} {d : DataW H} {p : List MemPlace}
    (h : DataW.trod enc Try.prog W 0 (fun _ => true) true fuel 22 [.slice ao len cap] = some (d, p)) :
    ∃ l : List Ch, HCh W (.slice ao len cap) l ∧ l.length ≤ Rows.uptoBulk d ∧ ∀ c ∈ l, wCh c := by
  rcases Go.Deep.open_slice Try.underlying22 h with ⟨hcs, hx⟩ | ⟨a, l, c, m, n, D, Pl, hcs, _, hl, hm, hmm, hx, hel⟩
  · simp at hcs
    obtain ⟨rfl, rfl, rfl⟩ := hcs
    exact ⟨[], .inl ⟨rfl, rfl, rfl⟩, by simp, by simp⟩
  · simp at hcs
    obtain ⟨rfl, rfl, rfl⟩ := hcs
    simp only [Prod.mk.injEq] at hx
    obtain ⟨rfl, _⟩ := hx
    have hlm : len ≤ m := by rw [hmm]; split <;> omega
    have each : ∀ i, i < len → ∃ c : Ch, wCh c ∧ W.cell? (a.add (i * 4)) = some (.int .i64 c.A) ∧ W.cell? (a.add (i * 4 + 1)) = some (.int .i64 c.AN) ∧ W.cell? (a.add (i * 4 + 2)) = some (.int .i64 c.B) ∧ W.cell? (a.add (i * 4 + 3)) = some (.int .i64 c.BN) ∧ 1 ≤ Rows.uptoBulk (D i) := by
      intro i hi
      obtain ⟨cs', h1, h2⟩ := hel i (by omega)
      rw [cellsCh] at h1
      obtain ⟨_, hlen, hcell⟩ := World.cells?_some h1
      obtain ⟨xs, k, hk, hxy, _, hxl, hf⟩ := DataW.trod_struct Try.underlying35 h2
      match xs, hxl, cs', hlen with
      | [y0, y1, y2, y3], _, [v0, v1, v2, v3], _ =>
        have g0 := hf 0 _ rfl
        have g1 := hf 1 _ rfl
        have g2 := hf 2 _ rfl
        have g3 := hf 3 _ rfl
        simp [cellsInt] at g0 g1 g2 g3
        obtain ⟨z0, e0, _, w0⟩ := DataW.trod_int Try.underlying3 g0
        obtain ⟨z1, e1, _, w1⟩ := DataW.trod_int Try.underlying3 g1
        obtain ⟨z2, e2, _, w2⟩ := DataW.trod_int Try.underlying3 g2
        obtain ⟨z3, e3, _, w3⟩ := DataW.trod_int Try.underlying3 g3
        cases e0
        cases e1
        cases e2
        cases e3
        have c0 := hcell 0 (by omega)
        have c1 := hcell 1 (by omega)
        have c2 := hcell 2 (by omega)
        have c3 := hcell 3 (by omega)
        rw [Go.Deep.add_add] at c0 c1 c2 c3
        simp only [Prod.mk.injEq] at hxy
        refine ⟨⟨z0, z1, z2, z3⟩, ⟨w64_of w0, w64_of w1, w64_of w2, w64_of w3⟩, by simpa using c0, by simpa using c1, by simpa using c2, by simpa using c3, ?_⟩
        rw [hxy.1, Rows.uptoBulk]
        omega
    have : Inhabited Ch := ⟨⟨0, 0, 0, 0⟩⟩
    obtain ⟨f, hf⟩ := Go.Deep.choose_lt each
    have hlen : ((List.range len).map f).length = len := by simp
    refine ⟨(List.range len).map f, .inr ⟨a, cap, by rw [hlen], by rw [hlen]; exact hl, fun j u hj => ?_⟩, ?_, ?_⟩
    · have hj' : j < len * 4 := by
        have := (List.getElem?_eq_some_iff.1 hj).1
        rw [chcells_length, hlen] at this
        exact this
      obtain ⟨h0, h1, h2, h3⟩ := chcells_at ((List.range len).map f) (j / 4) (by rw [hlen]; omega)
      obtain ⟨_, g0, g1, g2, g3, _⟩ := hf (j / 4) (by omega)
      simp only [List.getElem_map, List.getElem_range] at h0 h1 h2 h3
      rcases (by omega : j = 4 * (j / 4) ∨ j = 4 * (j / 4) + 1 ∨ j = 4 * (j / 4) + 2 ∨ j = 4 * (j / 4) + 3) with e | e | e | e
      · rw [e, h0] at hj
        rw [e, Nat.mul_comm, g0, hj]
      · rw [e, h1] at hj
        rw [e, Nat.mul_comm, g1, hj]
      · rw [e, h2] at hj
        rw [e, Nat.mul_comm, g2, hj]
      · rw [e, h3] at hj
        rw [e, Nat.mul_comm, g3, hj]
    · rw [hlen, Rows.uptoBulk]
      have := bulk_range D len fun i hi => (hf i hi).2.2.2.2.2
      omega
    · intro c hc
      simp only [List.mem_map, List.mem_range] at hc
      obtain ⟨i, hi, rfl⟩ := hc
      exact (hf i hi).1
end Go.Proofs.Ythckcdpgjdbgcaa

/- What an argument of type []string holds, and how much of it there is by the statement's own count. -/
namespace Go.Proofs.Ythckcdpgjdbgcaa
open Go.ChangeShapes Go.WideShapes Go.ChangeAt Go.RowKit

theorem cellsStr : Try.prog.cellsOf 9 = 1 := by kernel_rfl
theorem strs_bulk {H : Type} (l : List ByteArray) : l.length + (l.map fun s => s.data.toList).flatten.length ≤ Rows.uptoBulkAll (strs (H := H) l) := by
  induction l with
  | nil => simp [strs, Rows.uptoBulkAll]
  | cons s t ih =>
    have e : strs (H := H) (s :: t) = .lit (.string s.data.toList) :: strs t := rfl
    rw [e, Rows.uptoBulkAll, Rows.uptoBulk]
    simp only [List.length_cons, List.map_cons, List.flatten_cons, List.length_append] at ih ⊢
    omega

/-- the texts that an argument holds -/
theorem open_texts {H : Type} {enc : TypeId × Value → H} {W : World} {fuel : Nat} {ao : Option Addr} {len cap : Nat} {d : DataW H} {p : List MemPlace}
    (h : DataW.trod enc Try.prog W 0 (fun _ => true) true fuel 23 [.slice ao len cap] = some (d, p)) :
    ∃ ws : List (List UInt8), HS W (.slice ao len cap) ws ∧ ws.length + ws.flatten.length ≤ Rows.uptoBulk d := by
  rcases open_strings Try.underlying23 Try.underlying9 cellsStr h with ⟨hcs, hx⟩ | ⟨a, l, c, ss, hcs, _, hl, hm, hz, hx, hcell, _⟩
  · simp at hcs
    obtain ⟨rfl, rfl, rfl⟩ := hcs
    exact ⟨[], .inl ⟨rfl, rfl, rfl⟩, by simp⟩
  · simp at hcs
    obtain ⟨rfl, rfl, rfl⟩ := hcs
    simp at hz
    simp only [Prod.mk.injEq] at hx
    obtain ⟨rfl, _⟩ := hx
    have hlen : ((ss.take len).map fun s => s.data.toList).length = len := by simp; omega
    refine ⟨(ss.take len).map fun s => s.data.toList, .inr ⟨a, cap, by rw [hlen], by omega, fun j u hj => ?_⟩, ?_⟩
    · have hj' : j < len := by
        have := (List.getElem?_eq_some_iff.1 hj).1
        rw [scells_length, hlen] at this
        exact this
      rw [hcell j (by omega)]
      have hjs : j < ss.length := by omega
      simp [scells, hj', hjs] at hj
      simp [List.getD, hjs, ← hj]
    · have := strs_bulk (H := H) (ss.take len)
      rw [Rows.uptoBulk]
      simp only [List.length_map] at this ⊢
      omega
end Go.Proofs.Ythckcdpgjdbgcaa

/- What arguments of type api.Hunk, []api.Hunk hold, and how much of it there is by the statement's own count. -/
namespace Go.Proofs.Ythckcdpgjdbgcaa
open Go.ChangeShapes Go.WideShapes Go.ChangeAt Go.RowKit

theorem cellsMk : Try.prog.cellsOf 46 = 2 := by kernel_rfl
theorem cellsHk : Try.prog.cellsOf 39 = 5 := by kernel_rfl
theorem cellsU8 : Try.prog.cellsOf 5 = 1 := by kernel_rfl
theorem cellsMks : Try.prog.cellsOf 37 = 1 := by kernel_rfl
/-- how much lines are, and hunks -/
def mb : List Mk → Nat
  | [] => 0
  | m :: l => m.tx.length + 1 + mb l
def hbk : List Hk → Nat
  | [] => 0
  | h :: l => mb h.ls + 1 + hbk l
theorem mb_len (l : List Mk) : l.length ≤ mb l := by
  induction l with
  | nil => simp
  | cons m l ih => simp only [mb, List.length_cons]; omega
theorem mb_mem (l : List Mk) : ∀ m ∈ l, m.tx.length ≤ mb l := by
  induction l with
  | nil => intro m hm; cases hm
  | cons x l ih =>
    intro m hm
    simp only [mb]
    rcases List.mem_cons.1 hm with rfl | hm
    · omega
    · have := ih m hm
      omega
theorem hb_len (l : List Hk) : l.length ≤ hbk l := by
  induction l with
  | nil => simp
  | cons m l ih => simp only [hbk, List.length_cons]; omega
theorem hb_mem (l : List Hk) : ∀ h ∈ l, mb h.ls ≤ hbk l := by
  induction l with
  | nil => intro m hm; cases hm
  | cons x l ih =>
    intro m hm
    simp only [hbk]
    rcases List.mem_cons.1 hm with rfl | hm
    · omega
    · have := ih m hm
      omega
theorem mb_range (f : Nat → Mk) (n : Nat) : mb ((List.range n).map f) = ((List.range n).map fun i => (f i).tx.length + 1).sum := by
  have key : ∀ l : List Mk, mb l = (l.map fun m => m.tx.length + 1).sum := by
    intro l
    induction l with
    | nil => rfl
    | cons m l ih => simp only [mb, ih, List.map_cons, List.sum_cons]
  rw [key, List.map_map]
  rfl
theorem hb_range (f : Nat → Hk) (n : Nat) : hbk ((List.range n).map f) = ((List.range n).map fun i => mb (f i).ls + 1).sum := by
  have key : ∀ l : List Hk, hbk l = (l.map fun m => mb m.ls + 1).sum := by
    intro l
    induction l with
    | nil => rfl
    | cons m l ih => simp only [hbk, ih, List.map_cons, List.sum_cons]
  rw [key, List.map_map]
  rfl
theorem bulk_sum {H : Type} (D : Nat → DataW H) (c : Nat → Nat) (n : Nat) (h : ∀ i, i < n → c i ≤ Rows.uptoBulk (D i)) : ((List.range n).map c).sum ≤ Rows.uptoBulkAll ((List.range n).map D) := by
  have key : ∀ l : List Nat, (∀ i ∈ l, c i ≤ Rows.uptoBulk (D i)) → (l.map c).sum ≤ Rows.uptoBulkAll (l.map D) := by
    intro l
    induction l with
    | nil => intro _; simp
    | cons i l ih =>
      intro hl
      have h1 := hl i (by simp)
      have h2 := ih fun j hj => hl j (by simp [hj])
      simp only [List.map_cons, List.sum_cons, Rows.uptoBulkAll]
      omega
  exact key _ fun i hi => h i (by simpa using hi)

set_option maxRecDepth 10000 in
theorem open_mks {H : Type} {enc : TypeId × Value → H} {W : World} {fuel : Nat} {cs : List Value} {d : DataW H} {p : List MemPlace}
    (h : DataW.trod enc Try.prog W 0 (fun _ => true) true fuel 37 cs = some (d, p)) :
    ∃ (v : Value) (l : List Mk), cs = [v] ∧ HMk W v l ∧ mb l ≤ Rows.uptoBulk d ∧ ∀ m ∈ l, 0 ≤ m.sg ∧ m.sg ≤ 255 := by
  rcases Go.Deep.open_slice Try.underlying37 h with ⟨hcs, hx⟩ | ⟨a, len, cap, m, n, D, Pl, hcs, _, hl, hm, hmm, hx, hel⟩
  · exact ⟨_, [], hcs, .inl ⟨rfl, rfl, rfl⟩, by simp [mb], by simp⟩
  · simp only [Prod.mk.injEq] at hx
    obtain ⟨rfl, _⟩ := hx
    have hlm : len ≤ m := by rw [hmm]; split <;> omega
    have each : ∀ i, i < len → ∃ c : Mk, (0 ≤ c.sg ∧ c.sg ≤ 255) ∧ W.cell? (a.add (i * 2)) = some (.int .u8 c.sg) ∧ W.cell? (a.add (i * 2 + 1)) = some (.string ⟨c.tx.toArray⟩) ∧ c.tx.length + 1 ≤ Rows.uptoBulk (D i) := by
      intro i hi
      obtain ⟨cs', h1, h2⟩ := hel i (by omega)
      rw [cellsMk] at h1
      obtain ⟨_, hlen, hcell⟩ := World.cells?_some h1
      obtain ⟨xs, k, hk, hxy, _, hxl, hf⟩ := DataW.trod_struct Try.underlying46 h2
      match xs, hxl, cs', hlen with
      | [y0, y1], _, [v0, v1], _ =>
        have g0 := hf 0 _ rfl
        have g1 := hf 1 _ rfl
        simp [cellsU8, cellsStr] at g0 g1
        obtain ⟨z0, e0, q0, w0⟩ := DataW.trod_int Try.underlying5 g0
        obtain ⟨z1, e1, q1, _⟩ := DataW.trod_string Try.underlying9 g1
        cases e0
        cases e1
        have c0 := hcell 0 (by omega)
        have c1 := hcell 1 (by omega)
        rw [Go.Deep.add_add] at c0 c1
        simp only [Prod.mk.injEq] at hxy
        have hw : 0 ≤ z0 ∧ z0 ≤ 255 := bounds_u8 w0
        refine ⟨⟨z0, z1.data.toList⟩, hw, by simpa using c0, by simpa using c1, ?_⟩
        rw [hxy.1, q0, q1]
        simp [Rows.uptoBulk, Rows.uptoBulkAll]
        omega
    have : Inhabited Mk := ⟨⟨0, []⟩⟩
    obtain ⟨f, hf⟩ := Go.Deep.choose_lt each
    have hlen : ((List.range len).map f).length = len := by simp
    refine ⟨_, (List.range len).map f, hcs, .inr ⟨a, cap, by rw [hlen], by rw [hlen]; exact hl, fun j u hj => ?_⟩, ?_, ?_⟩
    · have hj' : j < len * 2 := by
        have := (List.getElem?_eq_some_iff.1 hj).1
        rw [mkcells_length, hlen] at this
        exact this
      obtain ⟨h0, h1⟩ := mkcells_at ((List.range len).map f) (j / 2) (by rw [hlen]; omega)
      obtain ⟨_, g0, g1, _⟩ := hf (j / 2) (by omega)
      simp only [List.getElem_map, List.getElem_range] at h0 h1
      rcases (by omega : j = 2 * (j / 2) ∨ j = 2 * (j / 2) + 1) with e | e
      · rw [e, h0] at hj
        rw [e, Nat.mul_comm, g0, hj]
      · rw [e, h1] at hj
        rw [e, Nat.mul_comm, g1, hj]
    · rw [mb_range, Rows.uptoBulk]
      have := bulk_sum D (fun i => (f i).tx.length + 1) len fun i hi => (hf i hi).2.2.2
      omega
    · intro c hc
      simp only [List.mem_map, List.mem_range] at hc
      obtain ⟨i, hi, rfl⟩ := hc
      exact (hf i hi).1
/-- a hunk's cells -/
theorem open_hkc {H : Type} {enc : TypeId × Value → H} {W : World} {fuel : Nat} {cs : List Value} {d : DataW H} {p : List MemPlace}
    (h : DataW.trod enc Try.prog W 0 (fun _ => true) true fuel 39 cs = some (d, p)) :
    ∃ (x : Hk) (y : Value), cs = hkC x y ∧ HMk W y x.ls ∧ mb x.ls + 1 ≤ Rows.uptoBulk d ∧ (w64 x.A ∧ w64 x.AN ∧ w64 x.B ∧ w64 x.BN) ∧ ∀ m ∈ x.ls, 0 ≤ m.sg ∧ m.sg ≤ 255 := by
  obtain ⟨xs, k, hk, hxy, hlen, hxl, hf⟩ := DataW.trod_struct Try.underlying39 h
  rw [cellsHk] at hlen
  match xs, hxl, cs, hlen with
  | [y0, y1, y2, y3, y4], _, [v0, v1, v2, v3, v4], _ =>
    have g0 := hf 0 _ rfl
    have g1 := hf 1 _ rfl
    have g2 := hf 2 _ rfl
    have g3 := hf 3 _ rfl
    have g4 := hf 4 _ rfl
    simp [cellsInt, cellsMks] at g0 g1 g2 g3 g4
    obtain ⟨z0, e0, q0, w0⟩ := DataW.trod_int Try.underlying3 g0
    obtain ⟨z1, e1, q1, w1⟩ := DataW.trod_int Try.underlying3 g1
    obtain ⟨z2, e2, q2, w2⟩ := DataW.trod_int Try.underlying3 g2
    obtain ⟨z3, e3, q3, w3⟩ := DataW.trod_int Try.underlying3 g3
    obtain ⟨y4d, y4p⟩ := y4
    obtain ⟨v, l, e4, hm, hb, hs⟩ := open_mks g4
    cases e0
    cases e1
    cases e2
    cases e3
    cases e4
    simp only [Prod.mk.injEq] at hxy
    refine ⟨⟨z0, z1, z2, z3, l⟩, v4, rfl, hm, ?_, ⟨w64_of w0, w64_of w1, w64_of w2, w64_of w3⟩, hs⟩
    rw [hxy.1, q0, q1, q2, q3]
    simp [Rows.uptoBulk, Rows.uptoBulkAll]
    omega
theorem hkC_at (x : Hk) (y : Value) : hkC x y = [.int .i64 x.A, .int .i64 x.AN, .int .i64 x.B, .int .i64 x.BN, y] := rfl

set_option maxRecDepth 10000 in
/-- the hunks that an argument holds -/
theorem open_hks {H : Type} {enc : TypeId × Value → H} {W : World} {fuel : Nat} {ao : Option Addr} {len cap : Nat} {d : DataW H} {p : List MemPlace}
    (h : DataW.trod enc Try.prog W 0 (fun _ => true) true fuel 24 [.slice ao len cap] = some (d, p)) :
    ∃ l : List (Hk × Value), HHp W (.slice ao len cap) l ∧ hbk (l.map (·.1)) ≤ Rows.uptoBulk d ∧ ∀ x ∈ l, (w64 x.1.A ∧ w64 x.1.AN ∧ w64 x.1.B ∧ w64 x.1.BN) ∧ ∀ m ∈ x.1.ls, 0 ≤ m.sg ∧ m.sg ≤ 255 := by
  rcases Go.Deep.open_slice Try.underlying24 h with ⟨hcs, hx⟩ | ⟨a, l, c, m, n, D, Pl, hcs, _, hl, hm, hmm, hx, hel⟩
  · simp at hcs
    obtain ⟨rfl, rfl, rfl⟩ := hcs
    exact ⟨[], ⟨.inl ⟨rfl, rfl, rfl⟩, by simp⟩, by simp [hbk], by simp⟩
  · simp at hcs
    obtain ⟨rfl, rfl, rfl⟩ := hcs
    simp only [Prod.mk.injEq] at hx
    obtain ⟨rfl, _⟩ := hx
    have hlm : len ≤ m := by rw [hmm]; split <;> omega
    have each : ∀ i, i < len → ∃ c : Hk × Value, (∀ j, j < 5 → W.cell? (a.add (i * 5 + j)) = (hkC c.1 c.2)[j]?) ∧ HMk W c.2 c.1.ls ∧ mb c.1.ls + 1 ≤ Rows.uptoBulk (D i) ∧ (w64 c.1.A ∧ w64 c.1.AN ∧ w64 c.1.B ∧ w64 c.1.BN) ∧ ∀ m ∈ c.1.ls, 0 ≤ m.sg ∧ m.sg ≤ 255 := by
      intro i hi
      obtain ⟨cs', h1, h2⟩ := hel i (by omega)
      rw [cellsHk] at h1
      obtain ⟨_, hlen, hcell⟩ := World.cells?_some h1
      obtain ⟨x, y, rfl, hm, hb, hw, hs⟩ := open_hkc h2
      refine ⟨(x, y), fun j hj => ?_, hm, hb, hw, hs⟩
      have := hcell j (by simpa [hkC] using hj)
      rw [Go.Deep.add_add] at this
      rw [this]
    have : Inhabited (Hk × Value) := ⟨(⟨0, 0, 0, 0, []⟩, .slice none 0 0)⟩
    obtain ⟨f, hf⟩ := Go.Deep.choose_lt each
    have hlen : ((List.range len).map f).length = len := by simp
    refine ⟨(List.range len).map f, ⟨.inr ⟨a, cap, by rw [hlen], by rw [hlen]; exact hl, fun j u hj => ?_⟩, ?_⟩, ?_, ?_⟩
    · have hj' : j < len * 5 := by
        have := (List.getElem?_eq_some_iff.1 hj).1
        rw [hkcells_length, hlen] at this
        exact this
      obtain ⟨h0, h1, h2, h3, h4⟩ := hkcells_at ((List.range len).map f) (j / 5) (by rw [hlen]; omega)
      have hfj := (hf (j / 5) (by omega)).1
      simp only [List.getElem_map, List.getElem_range] at h0 h1 h2 h3 h4
      rcases (by omega : j = 5 * (j / 5) ∨ j = 5 * (j / 5) + 1 ∨ j = 5 * (j / 5) + 2 ∨ j = 5 * (j / 5) + 3 ∨ j = 5 * (j / 5) + 4) with e | e | e | e | e
      · rw [e, h0] at hj
        have := hfj 0 (by omega)
        rw [e, Nat.mul_comm]
        rw [Nat.add_zero] at this
        rw [this, ← hj]
        rfl
      · rw [e, h1] at hj
        rw [e, Nat.mul_comm, hfj 1 (by omega), ← hj]
        rfl
      · rw [e, h2] at hj
        rw [e, Nat.mul_comm, hfj 2 (by omega), ← hj]
        rfl
      · rw [e, h3] at hj
        rw [e, Nat.mul_comm, hfj 3 (by omega), ← hj]
        rfl
      · rw [e, h4] at hj
        rw [e, Nat.mul_comm, hfj 4 (by omega), ← hj]
        rfl
    · intro x hx
      simp only [List.mem_map, List.mem_range] at hx
      obtain ⟨i, hi, rfl⟩ := hx
      exact (hf i hi).2.1
    · rw [List.map_map]
      have e := hb_range (fun i => (f i).1) len
      have h2 := bulk_sum D (fun i => mb (f i).1.ls + 1) len fun i hi => (hf i hi).2.2.1
      rw [Rows.uptoBulk]
      show hbk ((List.range len).map fun i => (f i).1) ≤ _
      omega
    · intro x hx
      simp only [List.mem_map, List.mem_range] at hx
      obtain ⟨i, hi, rfl⟩ := hx
      exact (hf i hi).2.2.2
end Go.Proofs.Ythckcdpgjdbgcaa
