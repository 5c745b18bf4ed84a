/-
  Texts that belong together, joined: HuRf4, HuRf5, HuRf6, HuRf7, PcLs, HuOwn.
-/
import Derived.Test.YthckcdpgjdbgcaaPartA2
import Derived.Deep.CutRange
import Derived.Deep.DeepCutAuto
import Derived.Test.YthckcdpgjdbgcaaPartA1
import Derived.Laws.Rows

/- The reference's Check of layer 11, walked. -/
namespace Go.Proofs.Ythckcdpgjdbgcaa
open Go.RowKit

/-- a hunk is read out of its box -/
theorem load_hk {u : World} {b : Nat} {h : Hk} {v : Value} (q : Hx u b h v) {op : Oper} (x : Operand) (ho : op.op = .load 39 x) {ev : Operand → Value} (hx : ev x = .pointer (some ⟨b, 0, none⟩)) :
    (execOp ev op).run Try.prog u = .ok (.value (hkV h v)) u := by
  have hL : (loadVar 39 ⟨b, 0, none⟩).run Try.prog u = .ok (hkV h v) u := run_loadVar_row u b _ _ _ _ _ q Try.underlying39 rfl (by kernel_rfl)
  simp only [execOp, ho, hx, Instr.loadAt, Instr.sureAddr, Sem.run_bind, Sem.run_pure, Result.andThen_ok, hL]
/-- Old and New within a region that draws -/
theorem old_held {h : Hk} {v : Value} {W u : World} (hv : HMk W v h.ls) (hl : h.ls.length ≤ 1099511627776) {R : List (List UInt8)} (HR : Hid (oldL h = R)) (hL : Low W u) : Calls Try.prog 18 (#[hkV h v] ++ #[]) u fun e w' => ∃ x, e = .returned x ∧ Low W w' ∧ ∃ o c, x = .slice o R.length c := by
  refine (rOld_f h v u (HMk.keep hv hL (Nat.le_refl _)) hl R HR).mono ?_
  rintro e w' ⟨x, rfl, hx, hB⟩
  obtain ⟨o, c, rfl⟩ := Holds.form hx
  refine ⟨_, rfl, hL.trans (hB.mono hL.size), o, c, ?_⟩
  rfl
theorem new_held {h : Hk} {v : Value} {W u : World} (hv : HMk W v h.ls) (hl : h.ls.length ≤ 1099511627776) {R : List (List UInt8)} (HR : Hid (newL h = R)) (hL : Low W u) : Calls Try.prog 19 (#[hkV h v] ++ #[]) u fun e w' => ∃ x, e = .returned x ∧ Low W w' ∧ ∃ o c, x = .slice o R.length c := by
  refine (rNew_f h v u (HMk.keep hv hL (Nat.le_refl _)) hl R HR).mono ?_
  rintro e w' ⟨x, rfl, hx, hB⟩
  obtain ⟨o, c, rfl⟩ := Holds.form hx
  refine ⟨_, rfl, hL.trans (hB.mono hL.size), o, c, ?_⟩
  rfl

set_option maxRecDepth 10000 in
set_option maxHeartbeats 4000000 in
theorem rhCheck_f (h : Hk) (v : Value) (w : World) (hv : HMk w v h.ls) (hl : h.ls.length ≤ 1099511627776) (htx : ∀ m ∈ h.ls, m.tx.length ≤ 1099511627776) (r : Int) (HR : Hid (chkH h = r)) : Calls Try.prog 17 #[hkV h v] w fun e w' => e = .returned (.int .i64 r) ∧ Below w.heap.size w w' := by
  obtain ⟨A, AN, B, BN, ls⟩ := h
  dsimp only at hv hl htx
  obtain ⟨lo, lc, rfl⟩ := HMk.form hv
  have hx := Hx.new w ⟨A, AN, B, BN, ls⟩ (.slice lo ls.length lc)
  have hBl : Below w.heap.size w (w.alloc (hkO ⟨A, AN, B, BN, ls⟩ (.slice lo ls.length lc))) := (Below.refl _ w).alloc (Nat.le_refl _) _
  have hv1 := HMk.keep hv hBl (Nat.le_refl _)
  have HTX : Hid (∀ m ∈ ls, m.tx.length ≤ 1099511627776) := htx
  have HSZ : Hid ((w.alloc (hkO ⟨A, AN, B, BN, ls⟩ (.slice lo ls.length lc))).heap.size = w.heap.size + 1) := (by show _ = _; simp)
  clear htx hv
  obtain ⟨x0, x1, x2, x3, x4⟩ := hx.cells
  unfold hkV
  dsimp only at x0 x1 x2 x3 x4 ⊢
  have hW0 : w.alloc (hkO ⟨A, AN, B, BN, ls⟩ (.slice lo ls.length lc)) = w.alloc (Obj.cells #[Value.int IntKind.i64 A, Value.int IntKind.i64 AN, Value.int IntKind.i64 B, Value.int IntKind.i64 BN, .slice lo ls.length lc] 39) := rfl
  generalize w.alloc (hkO ⟨A, AN, B, BN, ls⟩ (.slice lo ls.length lc)) = W at *
  have hW := hW0.symm
  clear hW0
  go_enter Try.func17, Try.ntmps17
  go_upto_region 1 with fail
  clear hW
  obtain ⟨g, hg⟩ : ∃ g, rngB ⟨A, AN, B, BN, ls⟩ = g := ⟨_, rfl⟩
  have HGG : Hid (rngB ⟨A, AN, B, BN, ls⟩ = g) := hg
  clear hg
  go_cut [45] from 4 to 45 (fun c wz => c = .bool (!g) ∧ wz = W)
  case first =>
    obtain ⟨p1, hp1⟩ : ∃ p, nat31 A = p := ⟨_, rfl⟩
    obtain ⟨p2, hp2⟩ : ∃ p, nat31 AN = p := ⟨_, rfl⟩
    obtain ⟨p3, hp3⟩ : ∃ p, nat31 B = p := ⟨_, rfl⟩
    obtain ⟨p4, hp4⟩ : ∃ p, nat31 BN = p := ⟨_, rfl⟩
    have HG : Hid ((p1 && p2 && p3 && p4 && !(decide (A = 0) && decide (0 < AN)) && !(decide (B = 0) && decide (0 < BN))) = g) := (by show _ = _; rw [← HGG.out, ← hp1, ← hp2, ← hp3, ← hp4]; rfl)
    clear HGG HR
    go_wp2_with fail
    refine (rnumber_any A W).mono ?_
    rintro e w1 ⟨rfl, hw⟩
    rw [hp1, hw]
    clear hw
    cases p1 with
    | false =>
      obtain rfl : g = false := by rw [← HG.out]; simp
      clear HG hp1 hp2 hp3 hp4
      go_wp2
      go_meet
      case rel => exact ⟨rfl, rfl⟩
    | true =>
      go_wp2_with fail
      refine (rnumber_any AN W).mono ?_
      rintro e w1 ⟨rfl, hw⟩
      rw [hp2, hw]
      clear hw
      cases p2 with
      | false =>
        obtain rfl : g = false := by rw [← HG.out]; simp
        clear HG hp1 hp2 hp3 hp4
        go_wp2
        go_meet
        case rel => exact ⟨rfl, rfl⟩
      | true =>
        go_wp2_with fail
        refine (rnumber_any B W).mono ?_
        rintro e w1 ⟨rfl, hw⟩
        rw [hp3, hw]
        clear hw
        cases p3 with
        | false =>
          obtain rfl : g = false := by rw [← HG.out]; simp
          clear HG hp1 hp2 hp3 hp4
          go_wp2
          go_meet
          case rel => exact ⟨rfl, rfl⟩
        | true =>
          go_wp2_with fail
          refine (rnumber_any BN W).mono ?_
          rintro e w1 ⟨rfl, hw⟩
          rw [hp4, hw]
          clear hw
          cases p4 with
          | false =>
            obtain rfl : g = false := by rw [← HG.out]; simp
            clear HG hp1 hp2 hp3 hp4
            go_wp2
            go_meet
            case rel => exact ⟨rfl, rfl⟩
          | true =>
            by_cases z1 : A = 0
            · subst z1
              by_cases z2 : 0 < AN
              · obtain rfl : g = false := by rw [← HG.out]; simp [z2]
                clear HG hp1 hp2 hp3 hp4
                go_wp2
                go_meet
                case rel => exact ⟨rfl, rfl⟩
              · have z3 : decide (0 < AN) = false := decide_eq_false z2
                by_cases z4 : B = 0
                · subst z4
                  by_cases z5 : 0 < BN
                  · obtain rfl : g = false := by rw [← HG.out]; simp [z5]
                    clear HG hp1 hp2 hp3 hp4
                    go_wp2
                    go_meet
                    case rel => exact ⟨rfl, rfl⟩
                  · obtain rfl : g = true := by rw [← HG.out]; simp [z2, z5]
                    have z6 : decide (0 < BN) = false := decide_eq_false z5
                    clear HG hp1 hp2 hp3 hp4
                    go_wp2
                    go_meet
                    case rel => exact ⟨rfl, rfl⟩
                · obtain rfl : g = true := by rw [← HG.out]; simp [z2, z4]
                  have z6 : (B == 0) = false := by simpa using z4
                  clear HG hp1 hp2 hp3 hp4
                  go_wp2
                  go_meet
                  case rel => exact ⟨rfl, rfl⟩
            · have z3 : (A == 0) = false := by simpa using z1
              by_cases z4 : B = 0
              · subst z4
                by_cases z5 : 0 < BN
                · obtain rfl : g = false := by rw [← HG.out]; simp [z5]
                  clear HG hp1 hp2 hp3 hp4
                  go_wp2
                  go_meet
                  case rel => exact ⟨rfl, rfl⟩
                · obtain rfl : g = true := by rw [← HG.out]; simp [z1, z5]
                  have z6 : decide (0 < BN) = false := decide_eq_false z5
                  clear HG hp1 hp2 hp3 hp4
                  go_wp2
                  go_meet
                  case rel => exact ⟨rfl, rfl⟩
              · obtain rfl : g = true := by rw [← HG.out]; simp [z1, z4]
                have z6 : (B == 0) = false := by simpa using z4
                clear HG hp1 hp2 hp3 hp4
                go_wp2
                go_meet
                case rel => exact ⟨rfl, rfl⟩
  case rest =>
    obtain ⟨rfl, rfl⟩ := hcut
    cases g with
    | false =>
      have HE : Hid (r = 2) := (by have hg := HGG.out; show _ = _; rw [← HR.out]; simp [chkH, hg])
      clear HGG HR
      go_wp2
      go_ret
      exact ⟨ret_int HE.out.symm, hBl⟩
    | true =>
      have HG : Hid (rngB ⟨A, AN, B, BN, ls⟩ = true) := HGG.out
      clear HGG
      obtain ⟨fb, hfb⟩ : ∃ f, fldB ls = f := ⟨_, rfl⟩
      have HFB : Hid (fldB ls = fb) := hfb
      clear hfb
      go_wp2_with fail
      refine (rfields_f ⟨A, AN, B, BN, ls⟩ _ _ hv1 hl HTX.out fb HFB).mono ?_
      rintro e W4 ⟨rfl, hB4⟩
      have hB04 := hBl.trans (hB4.mono hBl.size)
      cases fb with
      | false =>
        have HE : Hid (r = 6) := (by
          have h1 := HG.out
          have h2 := HFB.out
          show _ = _
          rw [← HR.out]
          simp [chkH, h1, h2])
        clear HR HG HFB
        go_wp2
        go_ret
        exact ⟨ret_int HE.out.symm, hB04⟩
      | true =>
        have hxW : Hx W4 w.heap.size ⟨A, AN, B, BN, ls⟩ (.slice lo ls.length lc) := hx.low hB4
        have hv4 := HMk.keep hv1 hB4 (Nat.le_refl _)
        obtain ⟨RO, hO⟩ : ∃ RO, oldL ⟨A, AN, B, BN, ls⟩ = RO := ⟨_, rfl⟩
        obtain ⟨RN, hN⟩ : ∃ RN, newL ⟨A, AN, B, BN, ls⟩ = RN := ⟨_, rfl⟩
        have HO : Hid (oldL ⟨A, AN, B, BN, ls⟩ = RO) := hO
        have HN : Hid (newL ⟨A, AN, B, BN, ls⟩ = RN) := hN
        obtain ⟨ol, hol⟩ : ∃ n, RO.length = n := ⟨_, rfl⟩
        obtain ⟨nl, hnl⟩ : ∃ n, RN.length = n := ⟨_, rfl⟩
        have HE : Hid ((if AN ≠ (ol : Int) ∨ BN ≠ (nl : Int) then (120 : Int) else if ls.all (fun m => decide (m.sg = 32)) = true then 50 else 0) = r) := (by
          have h1 := HG.out
          have h2 := HFB.out
          show _ = _
          rw [← HR.out, ← hol, ← hnl, ← hO, ← hN]
          simp only [chkH, h1, h2, Bool.true_eq_false, if_false])
        have hxx : ∀ u : World, Low W4 u → Hx u w.heap.size ⟨A, AN, B, BN, ls⟩ (.slice lo ls.length lc) := fun u hu => hxW.low hu
        have hx4 : ∀ u : World, Low W4 u → u.cell? ⟨w.heap.size, 0, none⟩ = some (.int .i64 A) ∧ u.cell? ⟨w.heap.size, 1, none⟩ = some (.int .i64 AN) ∧ u.cell? ⟨w.heap.size, 2, none⟩ = some (.int .i64 B) ∧ u.cell? ⟨w.heap.size, 3, none⟩ = some (.int .i64 BN) ∧ u.cell? ⟨w.heap.size, 4, none⟩ = some (.slice lo ls.length lc) := fun u hu => (hxx u hu).cells
        clear hO hN HR HG HFB x0 x1 x2 x3 x4
        go_upto_region 5 with fail
        obtain ⟨cb, hcb⟩ : ∃ b, decide (AN ≠ (ol : Int) ∨ BN ≠ (nl : Int)) = b := ⟨_, rfl⟩
        have HCB : Hid (decide (AN ≠ (ol : Int) ∨ BN ≠ (nl : Int)) = cb) := hcb
        clear hcb
        go_cut [62] from 49 to 62 (fun c wz => c = .bool cb ∧ Low W4 wz)
        case first =>
          have hlow : Low W4 (W4.drewN 1) := Below.dN (Below.refl _ W4) 1
          by_cases z1 : AN = (ol : Int)
          · have hne : (AN != (ol : Int)) = false := by simpa using z1
            by_cases z2 : BN = (nl : Int)
            · have hne2 : (BN != (nl : Int)) = false := by simpa using z2
              obtain rfl : cb = false := by rw [← HCB.out]; simp [z1, z2]
              clear HCB z1 z2
              refine wp_region_noPanic ?_
              refine wp_region_held_drew (S := fun u => Low W4 u) (by kernel_rfl) hlow (fun hHeld => ?_)
              refine go_take 0 49 _ (.pointer (some ⟨w.heap.size, 1, none⟩)) rfl (by kernel_rfl) (by kernel_rfl) (by kernel_rfl) (by kernel_rfl) (fun _ _ _ h => h) (Or.inl ⟨by kernel_rfl, fun u hu => by kernel_rfl⟩) hHeld ?_
              simp only [Act.put, List.setIfInBounds_toArray, List.set_cons_zero, List.set_cons_succ]
              refine go_take 1 50 _ (.int .i64 AN) rfl (by kernel_rfl) (by kernel_rfl) (by kernel_rfl) (by kernel_rfl) (fun _ _ _ h => h) (Or.inl ⟨by kernel_rfl, fun u hu => load_int (hx4 u hu).2.1 (.tmp 49) (by kernel_rfl) (by kernel_rfl)⟩) hHeld ?_
              simp only [Act.put, List.setIfInBounds_toArray, List.set_cons_zero, List.set_cons_succ]
              refine go_take 2 51 _ (hkV ⟨A, AN, B, BN, ls⟩ (.slice lo ls.length lc)) rfl (by kernel_rfl) (by kernel_rfl) (by kernel_rfl) (by kernel_rfl) (fun _ _ _ h => h) (Or.inl ⟨by kernel_rfl, fun u hu => load_hk (hxx u hu) (.tmp 1) (by kernel_rfl) (by kernel_rfl)⟩) hHeld ?_
              simp only [Act.put, List.setIfInBounds_toArray, List.set_cons_zero, List.set_cons_succ]
              refine go_callE 3 52 _ rfl (by kernel_rfl) (by kernel_rfl) (by kernel_rfl) 18 (.func 18) #[.tmp 51] #[39] (by kernel_rfl) #[] (by kernel_rfl) #[hkV ⟨A, AN, B, BN, ls⟩ (.slice lo ls.length lc)] (by kernel_rfl) (enters_of Try.func18 (by kernel_rfl) rfl) _ (old_held hv4 hl HO hHeld) ?_
              rintro v5 w5 hu5 ⟨o5, c5, rfl⟩
              rw [hol]
              replace hHeld := hu5
              simp only [Act.put, List.setIfInBounds_toArray, List.set_cons_zero, List.set_cons_succ]
              refine go_take 4 53 _ (.int .i64 (ol : Int)) rfl (by kernel_rfl) (by kernel_rfl) (by kernel_rfl) (by kernel_rfl) (fun _ _ _ h => h) (Or.inl ⟨by kernel_rfl, fun u hu => by kernel_rfl⟩) hHeld ?_
              simp only [Act.put, List.setIfInBounds_toArray, List.set_cons_zero, List.set_cons_succ]
              refine go_take 5 54 _ (.bool (AN != (ol : Int))) rfl (by kernel_rfl) (by kernel_rfl) (by kernel_rfl) (by kernel_rfl) (fun _ _ _ h => h) (Or.inl ⟨by kernel_rfl, fun u hu => by kernel_rfl⟩) hHeld ?_
              simp only [Act.put, List.setIfInBounds_toArray, List.set_cons_zero, List.set_cons_succ]
              simp only [hne]
              refine go_take 6 55 _ (.bool false) rfl (by kernel_rfl) (by kernel_rfl) (by kernel_rfl) (by kernel_rfl) (fun _ _ _ h => h) (Or.inl ⟨by kernel_rfl, fun u hu => by kernel_rfl⟩) hHeld ?_
              simp only [Act.put, List.setIfInBounds_toArray, List.set_cons_zero, List.set_cons_succ]
              refine go_take 7 56 _ (.pointer (some ⟨w.heap.size, 3, none⟩)) rfl (by kernel_rfl) (by kernel_rfl) (by kernel_rfl) (by kernel_rfl) (fun _ _ _ h => h) (Or.inl ⟨by kernel_rfl, fun u hu => by kernel_rfl⟩) hHeld ?_
              simp only [Act.put, List.setIfInBounds_toArray, List.set_cons_zero, List.set_cons_succ]
              refine go_take 8 57 _ (.int .i64 BN) rfl (by kernel_rfl) (by kernel_rfl) (by kernel_rfl) (by kernel_rfl) (fun _ _ _ h => h) (Or.inl ⟨by kernel_rfl, fun u hu => load_int (hx4 u hu).2.2.2.1 (.tmp 56) (by kernel_rfl) (by kernel_rfl)⟩) hHeld ?_
              simp only [Act.put, List.setIfInBounds_toArray, List.set_cons_zero, List.set_cons_succ]
              refine go_take 9 58 _ (hkV ⟨A, AN, B, BN, ls⟩ (.slice lo ls.length lc)) rfl (by kernel_rfl) (by kernel_rfl) (by kernel_rfl) (by kernel_rfl) (fun _ _ _ h => h) (Or.inl ⟨by kernel_rfl, fun u hu => load_hk (hxx u hu) (.tmp 1) (by kernel_rfl) (by kernel_rfl)⟩) hHeld ?_
              simp only [Act.put, List.setIfInBounds_toArray, List.set_cons_zero, List.set_cons_succ]
              refine go_callE 10 59 _ rfl (by kernel_rfl) (by kernel_rfl) (by kernel_rfl) 19 (.func 19) #[.tmp 58] #[39] (by kernel_rfl) #[] (by kernel_rfl) #[hkV ⟨A, AN, B, BN, ls⟩ (.slice lo ls.length lc)] (by kernel_rfl) (enters_of Try.func19 (by kernel_rfl) rfl) _ (new_held hv4 hl HN hHeld) ?_
              rintro v6 w6 hu6 ⟨o6, c6, rfl⟩
              rw [hnl]
              replace hHeld := hu6
              simp only [Act.put, List.setIfInBounds_toArray, List.set_cons_zero, List.set_cons_succ]
              refine go_take 11 60 _ (.int .i64 (nl : Int)) rfl (by kernel_rfl) (by kernel_rfl) (by kernel_rfl) (by kernel_rfl) (fun _ _ _ h => h) (Or.inl ⟨by kernel_rfl, fun u hu => by kernel_rfl⟩) hHeld ?_
              simp only [Act.put, List.setIfInBounds_toArray, List.set_cons_zero, List.set_cons_succ]
              refine go_take 12 61 _ (.bool (BN != (nl : Int))) rfl (by kernel_rfl) (by kernel_rfl) (by kernel_rfl) (by kernel_rfl) (fun _ _ _ h => h) (Or.inl ⟨by kernel_rfl, fun u hu => by kernel_rfl⟩) hHeld ?_
              simp only [Act.put, List.setIfInBounds_toArray, List.set_cons_zero, List.set_cons_succ]
              simp only [hne2]
              refine go_take 13 62 _ (.bool false) rfl (by kernel_rfl) (by kernel_rfl) (by kernel_rfl) (by kernel_rfl) (fun _ _ _ h => h) (Or.inl ⟨by kernel_rfl, fun u hu => by kernel_rfl⟩) hHeld ?_
              simp only [Act.put, List.setIfInBounds_toArray, List.set_cons_zero, List.set_cons_succ]
              refine wpAnyH_done (by kernel_rfl) ?_ _
              refine NoPanic.normal ?_
              go_wp2_with fail
              go_meet
              case rel => exact ⟨rfl, hHeld⟩
            · have hne2 : (BN != (nl : Int)) = true := by simpa using z2
              obtain rfl : cb = true := by rw [← HCB.out]; simp [z2]
              clear HCB z1 z2
              refine wp_region_noPanic ?_
              refine wp_region_held_drew (S := fun u => Low W4 u) (by kernel_rfl) hlow (fun hHeld => ?_)
              refine go_take 0 49 _ (.pointer (some ⟨w.heap.size, 1, none⟩)) rfl (by kernel_rfl) (by kernel_rfl) (by kernel_rfl) (by kernel_rfl) (fun _ _ _ h => h) (Or.inl ⟨by kernel_rfl, fun u hu => by kernel_rfl⟩) hHeld ?_
              simp only [Act.put, List.setIfInBounds_toArray, List.set_cons_zero, List.set_cons_succ]
              refine go_take 1 50 _ (.int .i64 AN) rfl (by kernel_rfl) (by kernel_rfl) (by kernel_rfl) (by kernel_rfl) (fun _ _ _ h => h) (Or.inl ⟨by kernel_rfl, fun u hu => load_int (hx4 u hu).2.1 (.tmp 49) (by kernel_rfl) (by kernel_rfl)⟩) hHeld ?_
              simp only [Act.put, List.setIfInBounds_toArray, List.set_cons_zero, List.set_cons_succ]
              refine go_take 2 51 _ (hkV ⟨A, AN, B, BN, ls⟩ (.slice lo ls.length lc)) rfl (by kernel_rfl) (by kernel_rfl) (by kernel_rfl) (by kernel_rfl) (fun _ _ _ h => h) (Or.inl ⟨by kernel_rfl, fun u hu => load_hk (hxx u hu) (.tmp 1) (by kernel_rfl) (by kernel_rfl)⟩) hHeld ?_
              simp only [Act.put, List.setIfInBounds_toArray, List.set_cons_zero, List.set_cons_succ]
              refine go_callE 3 52 _ rfl (by kernel_rfl) (by kernel_rfl) (by kernel_rfl) 18 (.func 18) #[.tmp 51] #[39] (by kernel_rfl) #[] (by kernel_rfl) #[hkV ⟨A, AN, B, BN, ls⟩ (.slice lo ls.length lc)] (by kernel_rfl) (enters_of Try.func18 (by kernel_rfl) rfl) _ (old_held hv4 hl HO hHeld) ?_
              rintro v5 w5 hu5 ⟨o5, c5, rfl⟩
              rw [hol]
              replace hHeld := hu5
              simp only [Act.put, List.setIfInBounds_toArray, List.set_cons_zero, List.set_cons_succ]
              refine go_take 4 53 _ (.int .i64 (ol : Int)) rfl (by kernel_rfl) (by kernel_rfl) (by kernel_rfl) (by kernel_rfl) (fun _ _ _ h => h) (Or.inl ⟨by kernel_rfl, fun u hu => by kernel_rfl⟩) hHeld ?_
              simp only [Act.put, List.setIfInBounds_toArray, List.set_cons_zero, List.set_cons_succ]
              refine go_take 5 54 _ (.bool (AN != (ol : Int))) rfl (by kernel_rfl) (by kernel_rfl) (by kernel_rfl) (by kernel_rfl) (fun _ _ _ h => h) (Or.inl ⟨by kernel_rfl, fun u hu => by kernel_rfl⟩) hHeld ?_
              simp only [Act.put, List.setIfInBounds_toArray, List.set_cons_zero, List.set_cons_succ]
              simp only [hne]
              refine go_take 6 55 _ (.bool false) rfl (by kernel_rfl) (by kernel_rfl) (by kernel_rfl) (by kernel_rfl) (fun _ _ _ h => h) (Or.inl ⟨by kernel_rfl, fun u hu => by kernel_rfl⟩) hHeld ?_
              simp only [Act.put, List.setIfInBounds_toArray, List.set_cons_zero, List.set_cons_succ]
              refine go_take 7 56 _ (.pointer (some ⟨w.heap.size, 3, none⟩)) rfl (by kernel_rfl) (by kernel_rfl) (by kernel_rfl) (by kernel_rfl) (fun _ _ _ h => h) (Or.inl ⟨by kernel_rfl, fun u hu => by kernel_rfl⟩) hHeld ?_
              simp only [Act.put, List.setIfInBounds_toArray, List.set_cons_zero, List.set_cons_succ]
              refine go_take 8 57 _ (.int .i64 BN) rfl (by kernel_rfl) (by kernel_rfl) (by kernel_rfl) (by kernel_rfl) (fun _ _ _ h => h) (Or.inl ⟨by kernel_rfl, fun u hu => load_int (hx4 u hu).2.2.2.1 (.tmp 56) (by kernel_rfl) (by kernel_rfl)⟩) hHeld ?_
              simp only [Act.put, List.setIfInBounds_toArray, List.set_cons_zero, List.set_cons_succ]
              refine go_take 9 58 _ (hkV ⟨A, AN, B, BN, ls⟩ (.slice lo ls.length lc)) rfl (by kernel_rfl) (by kernel_rfl) (by kernel_rfl) (by kernel_rfl) (fun _ _ _ h => h) (Or.inl ⟨by kernel_rfl, fun u hu => load_hk (hxx u hu) (.tmp 1) (by kernel_rfl) (by kernel_rfl)⟩) hHeld ?_
              simp only [Act.put, List.setIfInBounds_toArray, List.set_cons_zero, List.set_cons_succ]
              refine go_callE 10 59 _ rfl (by kernel_rfl) (by kernel_rfl) (by kernel_rfl) 19 (.func 19) #[.tmp 58] #[39] (by kernel_rfl) #[] (by kernel_rfl) #[hkV ⟨A, AN, B, BN, ls⟩ (.slice lo ls.length lc)] (by kernel_rfl) (enters_of Try.func19 (by kernel_rfl) rfl) _ (new_held hv4 hl HN hHeld) ?_
              rintro v6 w6 hu6 ⟨o6, c6, rfl⟩
              rw [hnl]
              replace hHeld := hu6
              simp only [Act.put, List.setIfInBounds_toArray, List.set_cons_zero, List.set_cons_succ]
              refine go_take 11 60 _ (.int .i64 (nl : Int)) rfl (by kernel_rfl) (by kernel_rfl) (by kernel_rfl) (by kernel_rfl) (fun _ _ _ h => h) (Or.inl ⟨by kernel_rfl, fun u hu => by kernel_rfl⟩) hHeld ?_
              simp only [Act.put, List.setIfInBounds_toArray, List.set_cons_zero, List.set_cons_succ]
              refine go_take 12 61 _ (.bool (BN != (nl : Int))) rfl (by kernel_rfl) (by kernel_rfl) (by kernel_rfl) (by kernel_rfl) (fun _ _ _ h => h) (Or.inl ⟨by kernel_rfl, fun u hu => by kernel_rfl⟩) hHeld ?_
              simp only [Act.put, List.setIfInBounds_toArray, List.set_cons_zero, List.set_cons_succ]
              simp only [hne2]
              refine go_take 13 62 _ (.bool true) rfl (by kernel_rfl) (by kernel_rfl) (by kernel_rfl) (by kernel_rfl) (fun _ _ _ h => h) (Or.inl ⟨by kernel_rfl, fun u hu => by kernel_rfl⟩) hHeld ?_
              simp only [Act.put, List.setIfInBounds_toArray, List.set_cons_zero, List.set_cons_succ]
              refine wpAnyH_done (by kernel_rfl) ?_ _
              refine NoPanic.normal ?_
              go_wp2_with fail
              go_meet
              case rel => exact ⟨rfl, hHeld⟩
          · have hne : (AN != (ol : Int)) = true := by simpa using z1
            obtain rfl : cb = true := by rw [← HCB.out]; simp [z1]
            clear HCB z1
            refine wp_region_noPanic ?_
            refine wp_region_held_drew (S := fun u => Low W4 u) (by kernel_rfl) hlow (fun hHeld => ?_)
            refine go_take 0 49 _ (.pointer (some ⟨w.heap.size, 1, none⟩)) rfl (by kernel_rfl) (by kernel_rfl) (by kernel_rfl) (by kernel_rfl) (fun _ _ _ h => h) (Or.inl ⟨by kernel_rfl, fun u hu => by kernel_rfl⟩) hHeld ?_
            simp only [Act.put, List.setIfInBounds_toArray, List.set_cons_zero, List.set_cons_succ]
            refine go_take 1 50 _ (.int .i64 AN) rfl (by kernel_rfl) (by kernel_rfl) (by kernel_rfl) (by kernel_rfl) (fun _ _ _ h => h) (Or.inl ⟨by kernel_rfl, fun u hu => load_int (hx4 u hu).2.1 (.tmp 49) (by kernel_rfl) (by kernel_rfl)⟩) hHeld ?_
            simp only [Act.put, List.setIfInBounds_toArray, List.set_cons_zero, List.set_cons_succ]
            refine go_take 2 51 _ (hkV ⟨A, AN, B, BN, ls⟩ (.slice lo ls.length lc)) rfl (by kernel_rfl) (by kernel_rfl) (by kernel_rfl) (by kernel_rfl) (fun _ _ _ h => h) (Or.inl ⟨by kernel_rfl, fun u hu => load_hk (hxx u hu) (.tmp 1) (by kernel_rfl) (by kernel_rfl)⟩) hHeld ?_
            simp only [Act.put, List.setIfInBounds_toArray, List.set_cons_zero, List.set_cons_succ]
            refine go_callE 3 52 _ rfl (by kernel_rfl) (by kernel_rfl) (by kernel_rfl) 18 (.func 18) #[.tmp 51] #[39] (by kernel_rfl) #[] (by kernel_rfl) #[hkV ⟨A, AN, B, BN, ls⟩ (.slice lo ls.length lc)] (by kernel_rfl) (enters_of Try.func18 (by kernel_rfl) rfl) _ (old_held hv4 hl HO hHeld) ?_
            rintro v5 w5 hu5 ⟨o5, c5, rfl⟩
            rw [hol]
            replace hHeld := hu5
            simp only [Act.put, List.setIfInBounds_toArray, List.set_cons_zero, List.set_cons_succ]
            refine go_take 4 53 _ (.int .i64 (ol : Int)) rfl (by kernel_rfl) (by kernel_rfl) (by kernel_rfl) (by kernel_rfl) (fun _ _ _ h => h) (Or.inl ⟨by kernel_rfl, fun u hu => by kernel_rfl⟩) hHeld ?_
            simp only [Act.put, List.setIfInBounds_toArray, List.set_cons_zero, List.set_cons_succ]
            refine go_take 5 54 _ (.bool (AN != (ol : Int))) rfl (by kernel_rfl) (by kernel_rfl) (by kernel_rfl) (by kernel_rfl) (fun _ _ _ h => h) (Or.inl ⟨by kernel_rfl, fun u hu => by kernel_rfl⟩) hHeld ?_
            simp only [Act.put, List.setIfInBounds_toArray, List.set_cons_zero, List.set_cons_succ]
            simp only [hne]
            refine go_take 6 55 _ (.bool true) rfl (by kernel_rfl) (by kernel_rfl) (by kernel_rfl) (by kernel_rfl) (fun _ _ _ h => h) (Or.inl ⟨by kernel_rfl, fun u hu => by kernel_rfl⟩) hHeld ?_
            simp only [Act.put, List.setIfInBounds_toArray, List.set_cons_zero, List.set_cons_succ]
            refine go_take 7 56 _ undef rfl (by kernel_rfl) (by kernel_rfl) (by kernel_rfl) (by kernel_rfl) (fun _ _ _ h => h) (Or.inr ⟨by kernel_rfl, rfl⟩) hHeld ?_
            simp only [Act.put, List.setIfInBounds_toArray, List.set_cons_zero, List.set_cons_succ]
            refine go_take 8 57 _ undef rfl (by kernel_rfl) (by kernel_rfl) (by kernel_rfl) (by kernel_rfl) (fun _ _ _ h => h) (Or.inr ⟨by kernel_rfl, rfl⟩) hHeld ?_
            simp only [Act.put, List.setIfInBounds_toArray, List.set_cons_zero, List.set_cons_succ]
            refine go_take 9 58 _ undef rfl (by kernel_rfl) (by kernel_rfl) (by kernel_rfl) (by kernel_rfl) (fun _ _ _ h => h) (Or.inr ⟨by kernel_rfl, rfl⟩) hHeld ?_
            simp only [Act.put, List.setIfInBounds_toArray, List.set_cons_zero, List.set_cons_succ]
            refine go_none 10 59 _ rfl (by kernel_rfl) (by kernel_rfl) (by kernel_rfl) hHeld ?_
            simp only [Act.put, List.setIfInBounds_toArray, List.set_cons_zero, List.set_cons_succ]
            refine go_take 11 60 _ undef rfl (by kernel_rfl) (by kernel_rfl) (by kernel_rfl) (by kernel_rfl) (fun _ _ _ h => h) (Or.inr ⟨by kernel_rfl, rfl⟩) hHeld ?_
            simp only [Act.put, List.setIfInBounds_toArray, List.set_cons_zero, List.set_cons_succ]
            refine go_take 12 61 _ undef rfl (by kernel_rfl) (by kernel_rfl) (by kernel_rfl) (by kernel_rfl) (fun _ _ _ h => h) (Or.inr ⟨by kernel_rfl, rfl⟩) hHeld ?_
            simp only [Act.put, List.setIfInBounds_toArray, List.set_cons_zero, List.set_cons_succ]
            refine go_take 13 62 _ (.bool true) rfl (by kernel_rfl) (by kernel_rfl) (by kernel_rfl) (by kernel_rfl) (fun _ _ _ h => h) (Or.inl ⟨by kernel_rfl, fun u hu => by kernel_rfl⟩) hHeld ?_
            simp only [Act.put, List.setIfInBounds_toArray, List.set_cons_zero, List.set_cons_succ]
            refine wpAnyH_done (by kernel_rfl) ?_ _
            refine NoPanic.normal ?_
            go_wp2_with fail
            go_meet
            case rel => exact ⟨rfl, hHeld⟩
        case rest =>
          obtain ⟨rfl, hlow⟩ := hcut
          obtain ⟨x0, x1, x2, x3, x4⟩ := hx4 _ hlow
          have hv5 := HMk.keep hv4 hlow (Nat.le_refl _)
          have hBf := hB04.trans (hlow.mono hB04.size)
          have HAB := HCB
          cases cb with
          | true =>
            have HE2 : Hid (r = 120) := (by
              show _ = _
              rw [← HE.out, if_pos (of_decide_eq_true HCB.out)])
            clear HE HCB HAB
            go_wp2
            go_ret
            exact ⟨ret_int HE2.out.symm, hBf⟩
          | false =>
            have HE2 : Hid ((if ls.all (fun m => decide (m.sg = 32)) = true then (50 : Int) else 0) = r) := (by
              show _ = _
              rw [← HE.out, if_neg (of_decide_eq_false HCB.out)])
            clear HE HCB HAB hx4 hxx
            go_wp2
            generalize hwc : wc = W5 at *
            clear hwc
            go_loopw [3] (fun iv wr => ∃ (k : Nat), k ≤ ls.length ∧ iv = .int .i64 (k : Int) ∧ wr = W5 ∧ Hid ((if (ls.drop k).all (fun m => decide (m.sg = 32)) = true then (50 : Int) else 0) = r)) (fun iv _ => ls.length - (intOf iv).toNat)
            case atStart => exact ⟨0, Nat.zero_le _, by go_num, rfl, HE2⟩
            case round =>
              obtain ⟨k, hk, rfl, rfl, HI⟩ := hrel
              by_cases hlt : k < ls.length
              · obtain ⟨b, off, rfl, hb, hc⟩ := HMk.at hv5 (by omega)
                obtain ⟨c0, c1⟩ := hc k hlt
                obtain ⟨m, hm⟩ : ∃ m, ls[k] = m := ⟨_, rfl⟩
                rw [hm] at c0 c1
                have HI2 : Hid ((if (decide (m.sg = 32) && (ls.drop (k + 1)).all (fun m => decide (m.sg = 32))) = true then (50 : Int) else 0) = r) := (by
                  show _ = _
                  rw [← HI.out, List.drop_eq_getElem_cons hlt, hm]
                  rfl)
                obtain ⟨s, tx⟩ := m
                dsimp only at c0 c1 HI2
                clear HI hm hc c1
                have i1 : 0 ≤ (k : Int) := by omega
                have i2 : (k : Int) < (ls.length : Int) := by omega
                by_cases h0 : s = 32
                · subst h0
                  have HI3 : Hid ((if (ls.drop (k + 1)).all (fun m => decide (m.sg = 32)) = true then (50 : Int) else 0) = r) := (by
                    show _ = _
                    rw [← HI2.out]
                    rfl)
                  clear HI2 HE2
                  go_wp2
                  exact ⟨⟨k + 1, by omega, by go_num, trivial, HI3⟩, by simp [intOf]; omega⟩
                · have e0 : (s != 32) = true := by simpa using h0
                  have HI3 : Hid (r = 0) := (by
                    show _ = _
                    rw [← HI2.out]
                    simp [h0])
                  clear HI2 HE2
                  go_wp2
                  go_ret
                  exact ⟨ret_int HI3.out.symm, hBf⟩
              · have HI3 : Hid (r = 50) := (by
                  show _ = _
                  rw [← HI.out, List.drop_of_length_le (by omega)]
                  rfl)
                have hend : decide ((k : Int) < (ls.length : Int)) = false := decide_eq_false (by omega)
                clear HI HE2
                go_wp2
                go_ret
                exact ⟨ret_int HI3.out.symm, hBf⟩
end Go.Proofs.Ythckcdpgjdbgcaa

/- The reference's Order of layer 11, walked. -/
namespace Go.Proofs.Ythckcdpgjdbgcaa
open Go.RowKit

/-- hunks of lengths that can be gone through -/
def HOk (p : List (Hk × Value)) : Prop := p.length ≤ 1099511627776 ∧ ∀ x ∈ p, x.1.ls.length ≤ 1099511627776 ∧ ∀ m ∈ x.1.ls, m.tx.length ≤ 1099511627776
/-- a hunk of a row, read -/
theorem HHp.take {w W : World} {b off n c : Nat} {p : List (Hk × Value)} (h : HHp w (.slice (some ⟨b, off, none⟩) n c) p) (hB : Below w.heap.size w W) (k : Nat) (hk : k < p.length) {x : Hk} {y : Value} (hx : p[k] = (x, y)) : (W.cell? ⟨b, off + k * 5, none⟩ = some (.int .i64 x.A) ∧ W.cell? ⟨b, off + k * 5 + 1, none⟩ = some (.int .i64 x.AN) ∧ W.cell? ⟨b, off + k * 5 + 2, none⟩ = some (.int .i64 x.B) ∧ W.cell? ⟨b, off + k * 5 + 3, none⟩ = some (.int .i64 x.BN) ∧ W.cell? ⟨b, off + k * 5 + 4, none⟩ = some y) ∧ HMk W y x.ls := by
  have h2 := h.keep hB (Nat.le_refl _)
  obtain ⟨b', off', e, _, hc⟩ := h2.at (by omega)
  cases e
  have := hc k hk
  rw [hx] at this
  refine ⟨this, ?_⟩
  have hi := h2.ins p[k] (List.getElem_mem hk)
  rw [hx] at hi
  exact hi
theorem errs_drop {l : List Hk} {k : Nat} (hk : k < l.length) : errs (l.drop k) = if chkH l[k] ≠ 0 then chkH l[k] else errs (l.drop (k + 1)) := by
  rw [List.drop_eq_getElem_cons hk]
  rfl
theorem ord_ok {l : List Hk} (h : errs l = 0) : ordH l = if ordB 0 0 l = true then 0 else 121 := by
  unfold ordH
  rw [h]
  simp
theorem ord_err {l : List Hk} {z : Int} (h : errs l = z) (hz : z ≠ 0) : ordH l = z := by
  unfold ordH
  rw [h, if_pos hz]
theorem errs_ok {l : List Hk} (h : errs l = 0) : ∀ x ∈ l, chkH x = 0 := by
  induction l with
  | nil => intro x hx; cases hx
  | cons y l ih =>
    simp only [errs] at h
    by_cases hy : chkH y ≠ 0
    · rw [if_pos hy] at h
      exact absurd h hy
    · rw [if_neg hy] at h
      intro x hx
      rcases List.mem_cons.1 hx with rfl | hx
      · simpa using hy
      · exact ih h x hx
/-- the numbers of a right hunk -/
theorem chk_num {h : Hk} (hc : chkH h = 0) : (0 ≤ h.A ∧ h.A ≤ 2147483647) ∧ (0 ≤ h.AN ∧ h.AN ≤ 2147483647) ∧ (0 ≤ h.B ∧ h.B ≤ 2147483647) ∧ (0 ≤ h.BN ∧ h.BN ≤ 2147483647) := by
  have hr : rngB h = true := by
    cases hq : rngB h with
    | true => rfl
    | false => simp [chkH, hq] at hc
  simp only [rngB, Bool.and_eq_true, nat31, decide_eq_true_eq] at hr
  omega
theorem at_num {h : Hk} (hc : chkH h = 0) : (-1 ≤ atA h ∧ atA h ≤ 2147483647) ∧ (-1 ≤ atB h ∧ atB h ≤ 2147483647) := by
  have := chk_num hc
  unfold atA atB
  split <;> split <;> omega

set_option maxHeartbeats 4000000 in
theorem rOrder_f (p : List (Hk × Value)) (v : Value) (w : World) (hv : HHp w v p) (hok : HOk p) (r : Int) (HR : Hid (ordH (p.map (·.1)) = r)) : Calls Try.prog 26 #[v] w fun e w' => e = .returned (.int .i64 r) ∧ Below w.heap.size w w' := by
  obtain ⟨vo, vc, rfl⟩ := Holds.form hv.row
  have hpl : p.length ≤ 1099511627776 := hok.1
  have HOK : Hid (HOk p) := hok
  obtain ⟨l, hl⟩ : ∃ l, p.map (·.1) = l := ⟨_, rfl⟩
  have hll : p.length = l.length := by rw [← hl]; simp
  have HL : Hid (p.map (·.1) = l) := hl
  have HLL : Hid (p.length = l.length) := hll
  rw [hl] at HR
  clear hl hll hok
  go_enter Try.func26, Try.ntmps26
  go_wp2
  go_loopw [3, 4] (fun iv _ wr => ∃ (k : Nat), k ≤ p.length ∧ iv = .int .i64 (k : Int) ∧ Below w.heap.size w wr ∧ Hid (errs l = errs (l.drop k))) (fun iv _ _ => p.length - (intOf iv).toNat)
  case atStart => exact ⟨0, Nat.zero_le _, by go_num, Below.refl _ _, rfl⟩
  case round =>
    obtain ⟨k, hk, rfl, hB, HI⟩ := hrel
    by_cases hlt : k < p.length
    · obtain ⟨b, off, rfl, hb, _⟩ := hv.at (by omega)
      obtain ⟨x, y, hxy⟩ : ∃ x y, p[k] = (x, y) := ⟨_, _, rfl⟩
      obtain ⟨⟨c0, c1, c2, c3, c4⟩, hm⟩ := hv.take hB k hlt hxy
      have hmem : (x, y) ∈ p := by rw [← hxy]; exact List.getElem_mem hlt
      have hbd := HOK.out.2 _ hmem
      have hlk : l[k]'(by have := HLL.out; omega) = x := by
        have hz : l[k]? = some x := by rw [← HL.out]; simp [hlt, hxy]
        exact (List.getElem?_eq_some_iff.1 hz).2
      have HI2 : Hid (errs l = if chkH x ≠ 0 then chkH x else errs (l.drop (k + 1))) := (by
        show _ = _
        rw [HI.out, errs_drop (by have := HLL.out; omega), hlk])
      obtain ⟨yo, yc, rfl⟩ := hm.form
      have i1 : 0 ≤ (k : Int) := by omega
      have i2 : (k : Int) < (p.length : Int) := by omega
      obtain ⟨z, hz⟩ : ∃ z, chkH x = z := ⟨_, rfl⟩
      have HZ : Hid (chkH x = z) := hz
      clear HI hlk hz hxy hmem
      go_wp2_with fail
      refine (rhCheck_f x _ _ hm hbd.1 hbd.2 z HZ).mono ?_
      rintro e w1 ⟨rfl, hB1⟩
      have hB01 := hB.trans (hB1.mono hB.size)
      by_cases hz0 : z = 0
      · subst hz0
        have HI3 : Hid (errs l = errs (l.drop (k + 1))) := (by
          show _ = _
          rw [HI2.out, HZ.out]
          simp)
        clear HI2 HZ
        go_wp2
        exact ⟨⟨k + 1, by omega, by go_num, hB01, HI3⟩, by simp [intOf]; omega⟩
      · have hz1 : (z != 0) = true := by simpa using hz0
        have HE : Hid (r = z) := (by
          have h1 : errs l = z := by rw [HI2.out, HZ.out, if_pos hz0]
          show _ = _
          rw [← HR.out]
          exact ord_err h1 hz0)
        clear HI2 HZ HR
        go_wp2
        go_ret
        exact ⟨ret_int HE.out.symm, hB01⟩
    · have HE0 : Hid (errs l = 0) := (by
        show _ = _
        rw [HI.out, List.drop_of_length_le (by have := HLL.out; omega)]
        rfl)
      have HE : Hid ((if ordB 0 0 l = true then (0 : Int) else 121) = r) := (by
        show _ = _
        rw [← HR.out]
        exact (ord_ok HE0.out).symm)
      have hend : decide ((k : Int) < (p.length : Int)) = false := decide_eq_false (by omega)
      clear HI HR
      go_wp2
      go_loopw [5, 6, 7] (fun uv vv iv wr => ∃ (k : Nat) (u v : Int), k ≤ p.length ∧ uv = .int .i64 u ∧ vv = .int .i64 v ∧ iv = .int .i64 (k : Int) ∧ (-1 ≤ u ∧ u ≤ 8589934592) ∧ (-1 ≤ v ∧ v ≤ 8589934592) ∧ Below w.heap.size w wr ∧ Hid ((if ordB u v (l.drop k) = true then (0 : Int) else 121) = r)) (fun _ _ iv _ => p.length - (intOf iv).toNat)
      case atStart => exact ⟨0, 0, 0, Nat.zero_le _, by go_num, by go_num, by go_num, by omega, by omega, hB, HE⟩
      case round =>
        obtain ⟨k, u, v, hk, rfl, rfl, rfl, hu, hv', hB, HI⟩ := hrel
        by_cases hlt : k < p.length
        · obtain ⟨b, off, rfl, hb, _⟩ := hv.at (by omega)
          obtain ⟨x, y, hxy⟩ : ∃ x y, p[k] = (x, y) := ⟨_, _, rfl⟩
          obtain ⟨⟨c0, c1, c2, c3, c4⟩, hm⟩ := hv.take hB k hlt hxy
          have hlk : l[k]'(by have := HLL.out; omega) = x := by
            have hz : l[k]? = some x := by rw [← HL.out]; simp [hlt, hxy]
            exact (List.getElem?_eq_some_iff.1 hz).2
          have hck : chkH x = 0 := errs_ok HE0.out x (by rw [← hlk]; exact List.getElem_mem _)
          have hn := chk_num hck
          obtain ⟨X, hX⟩ : ∃ X, atA x = X := ⟨_, rfl⟩
          obtain ⟨Y, hY⟩ : ∃ Y, atB x = Y := ⟨_, rfl⟩
          have ha := at_num hck
          rw [hX, hY] at ha
          have HX : Hid (atA x = X) := hX
          have HY : Hid (atB x = Y) := hY
          obtain ⟨yo, yc, rfl⟩ := hm.form
          have i1 : 0 ≤ (k : Int) := by omega
          have i2 : (k : Int) < (p.length : Int) := by omega
          have HI2 : Hid ((if (decide (u ≤ X) && decide (X - u = Y - v) && ordB (X + x.AN) (Y + x.BN) (l.drop (k + 1))) = true then (0 : Int) else 121) = r) := (by
            show _ = _
            have e : ordB u v (x :: l.drop (k + 1)) = (decide (u ≤ X) && decide (X - u = Y - v) && ordB (X + x.AN) (Y + x.BN) (l.drop (k + 1))) := by
              simp only [ordB]
              rw [hX, hY]
            rw [← HI.out, List.drop_eq_getElem_cons (l := l) (i := k) (by have := HLL.out; omega), hlk, e])
          clear HI hlk hck hxy hX hY HE
          go_wp2_with fail
          refine (rAt_f x _ _ (by omega) (by omega) (by omega) (by omega) X Y HX HY).mono ?_
          rintro e w1 ⟨rfl, hB1⟩
          have hB01 := hB.trans (hB1.mono hB.size)
          have hk1 := fun (q : Addr) (z : Value) (h : wr.cell? q = some z) => (World.cell?_of_block (w := wr) (hB1.block _ (World.block_lt_of_cell? _ _ h))).trans h
          have d1 := hk1 _ _ c1
          have d3 := hk1 _ _ c3
          clear hk1 c0 c1 c2 c3 c4
          by_cases h1 : X < u
          · have HE3 : Hid (r = 121) := (by
              show _ = _
              rw [← HI2.out]
              simp [show ¬ u ≤ X by omega])
            clear HI2 HX HY
            go_wp2
            go_ret
            exact ⟨ret_int HE3.out.symm, hB01⟩
          · have h1' : decide (X < u) = false := decide_eq_false h1
            by_cases h2 : X - u = Y - v
            · have h2' : (X - u != Y - v) = false := by simpa using h2
              have HI3 : Hid ((if ordB (X + x.AN) (Y + x.BN) (l.drop (k + 1)) = true then (0 : Int) else 121) = r) := (by
                show _ = _
                rw [← HI2.out]
                simp [show u ≤ X by omega, h2])
              clear HI2 HX HY h2
              go_wp2
              exact ⟨⟨k + 1, _, _, by omega, by go_num, by go_num, by go_num, by omega, by omega, hB01, HI3⟩, by simp [intOf]; omega⟩
            · have h2' : (X - u != Y - v) = true := by simpa using h2
              have HE3 : Hid (r = 121) := (by
                show _ = _
                rw [← HI2.out]
                simp [h2])
              clear HI2 HX HY h2
              go_wp2
              go_ret
              exact ⟨ret_int HE3.out.symm, hB01⟩
        · have HE3 : Hid (r = 0) := (by
            show _ = _
            rw [← HI.out, List.drop_of_length_le (by have := HLL.out; omega)]
            rfl)
          have hend2 : decide ((k : Int) < (p.length : Int)) = false := decide_eq_false (by omega)
          clear HI HE
          go_wp2
          go_ret
          exact ⟨ret_int HE3.out.symm, hB⟩
end Go.Proofs.Ythckcdpgjdbgcaa

/- The reference's Same, SameHunks of layer 11, walked: hunks that are the same. -/
namespace Go.Proofs.Ythckcdpgjdbgcaa
open Go.RowKit

set_option maxHeartbeats 4000000 in
theorem rSame_f (h : Hk) (v1 v2 : Value) (w : World) (hv1 : HMk w v1 h.ls) (hv2 : HMk w v2 h.ls) (hl : h.ls.length ≤ 1099511627776) : Calls Try.prog 21 #[hkV h v1, hkV h v2] w fun e w' => e = .returned (.bool true) ∧ Below w.heap.size w w' := by
  obtain ⟨A, AN, B, BN, ls⟩ := h
  dsimp only at hv1 hv2 hl
  obtain ⟨o1, c1, rfl⟩ := HMk.form hv1
  obtain ⟨o2, c2, rfl⟩ := HMk.form hv2
  have hx1 := Hx.new w ⟨A, AN, B, BN, ls⟩ (.slice o1 ls.length c1)
  have hB1 : Below w.heap.size w (w.alloc (hkO ⟨A, AN, B, BN, ls⟩ (.slice o1 ls.length c1))) := (Below.refl _ w).alloc (Nat.le_refl _) _
  have hx2 : Hx ((w.alloc (hkO ⟨A, AN, B, BN, ls⟩ (.slice o1 ls.length c1))).alloc (hkO ⟨A, AN, B, BN, ls⟩ (.slice o2 ls.length c2))) (w.heap.size + 1) ⟨A, AN, B, BN, ls⟩ (.slice o2 ls.length c2) := alloc_second w _ _
  have hB2 : Below w.heap.size w ((w.alloc (hkO ⟨A, AN, B, BN, ls⟩ (.slice o1 ls.length c1))).alloc (hkO ⟨A, AN, B, BN, ls⟩ (.slice o2 ls.length c2))) := hB1.alloc (by simp) _
  have hx1' := hx1.low ((Below.refl _ (w.alloc (hkO ⟨A, AN, B, BN, ls⟩ (.slice o1 ls.length c1)))).alloc (Nat.le_refl _) (hkO ⟨A, AN, B, BN, ls⟩ (.slice o2 ls.length c2)))
  have hm1 := HMk.keep hv1 hB2 (Nat.le_refl _)
  have hm2 := HMk.keep hv2 hB2 (Nat.le_refl _)
  obtain ⟨x0, x1, x2, x3, x4⟩ := hx1'.cells
  obtain ⟨y0, y1, y2, y3, y4⟩ := hx2.cells
  unfold hkV
  dsimp only at x0 x1 x2 x3 x4 y0 y1 y2 y3 y4 ⊢
  have hW0 : (w.alloc (hkO ⟨A, AN, B, BN, ls⟩ (.slice o1 ls.length c1))).alloc (hkO ⟨A, AN, B, BN, ls⟩ (.slice o2 ls.length c2)) = (w.alloc (Obj.cells #[Value.int IntKind.i64 A, Value.int IntKind.i64 AN, Value.int IntKind.i64 B, Value.int IntKind.i64 BN, .slice o1 ls.length c1] 39)).alloc (Obj.cells #[Value.int IntKind.i64 A, Value.int IntKind.i64 AN, Value.int IntKind.i64 B, Value.int IntKind.i64 BN, .slice o2 ls.length c2] 39) := rfl
  clear hx1 hx2 hx1' hB1 hv1 hv2
  generalize (w.alloc (hkO ⟨A, AN, B, BN, ls⟩ (.slice o1 ls.length c1))).alloc (hkO ⟨A, AN, B, BN, ls⟩ (.slice o2 ls.length c2)) = W at *
  have hW := hW0.symm
  clear hW0
  go_enter Try.func21, Try.ntmps21
  go_wp2
  clear hW
  go_loopw [5] (fun iv wr => ∃ k m : Nat, k ≤ ls.length ∧ iv = .int .i64 (k : Int) ∧ wr = W.drewN m) (fun iv _ => ls.length - (intOf iv).toNat)
  case atStart => exact ⟨0, 0, Nat.zero_le _, by go_num, rfl⟩
  case round =>
    obtain ⟨k, m, hk, rfl, rfl⟩ := hrel
    have x4' : (W.drewN m).cell? ⟨w.heap.size, 4, none⟩ = some (.slice o1 ls.length c1) := x4
    have y4' : (W.drewN m).cell? ⟨w.heap.size + 1, 4, none⟩ = some (.slice o2 ls.length c2) := y4
    by_cases hlt : k < ls.length
    · obtain ⟨b1, f1, rfl, _, hc1⟩ := HMk.at hm1 (by omega)
      obtain ⟨b2, f2, rfl, _, hc2⟩ := HMk.at hm2 (by omega)
      obtain ⟨s0, s1⟩ := hc1 k hlt
      obtain ⟨t0, t1⟩ := hc2 k hlt
      obtain ⟨q, hq⟩ : ∃ q, ls[k] = q := ⟨_, rfl⟩
      rw [hq] at s0 s1 t0 t1
      obtain ⟨sg, tx⟩ := q
      dsimp only at s0 s1 t0 t1
      clear hc1 hc2 hq
      have i1 : 0 ≤ (k : Int) := by omega
      have i2 : (k : Int) < (ls.length : Int) := by omega
      go_wp2_with fail
      go_quiet (fail)
      go_wp2
      go_roundw
      case rel => exact ⟨k + 1, _, by omega, by go_num, rfl⟩
      case measure => simp [intOf]; omega
    · have hend : decide ((k : Int) < (ls.length : Int)) = false := decide_eq_false (by omega)
      go_wp2
      go_ret
      exact ⟨rfl, Below.dN hB2 _⟩
end Go.Proofs.Ythckcdpgjdbgcaa

/- The reference's SameHunks of layer 11, walked: rows of hunks that are the same; steps by hand. -/
namespace Go.Proofs.Ythckcdpgjdbgcaa
open Go.RowKit

theorem exec_ixH {u : World} {b off n c i : Nat} (hi : i < n) {op : Oper} (x y : Operand) (ho : op.op = .indexAddr 24 x y) {ev : Operand → Value} (hx : ev x = .slice (some ⟨b, off, none⟩) n c) (hy : ev y = .int .i64 (i : Int)) :
    (execOp ev op).run Try.prog u = .ok (.value (.pointer (some ⟨b, off + i * 5, none⟩))) u := by
  have i1 : 0 ≤ (i : Int) := by omega
  have i2 : (i : Int) < (n : Int) := by omega
  simp only [execOp, ho, hx, hy]
  go_simp
/-- the cells of a hunk in a row -/
def HkAt (u : World) (b o : Nat) (x : Hk) (y : Value) : Prop := u.cell? ⟨b, o, none⟩ = some (.int .i64 x.A) ∧ u.cell? ⟨b, o + 1, none⟩ = some (.int .i64 x.AN) ∧ u.cell? ⟨b, o + 2, none⟩ = some (.int .i64 x.B) ∧ u.cell? ⟨b, o + 3, none⟩ = some (.int .i64 x.BN) ∧ u.cell? ⟨b, o + 4, none⟩ = some y
theorem HkAt.low {u u' : World} {b o : Nat} {x : Hk} {y : Value} (h : HkAt u b o x y) (hB : Low u u') : HkAt u' b o x y := by
  have key : ∀ (q : Addr) (z : Value), u.cell? q = some z → u'.cell? q = some z := fun q z hz => (World.cell?_of_block (w := u) (Below.block hB _ (World.block_lt_of_cell? _ _ hz))).trans hz
  exact ⟨key _ _ h.1, key _ _ h.2.1, key _ _ h.2.2.1, key _ _ h.2.2.2.1, key _ _ h.2.2.2.2⟩
theorem load_hkR {u : World} {b o : Nat} {h : Hk} {yo : Option Addr} {n yc : Nat} (q : HkAt u b o h (.slice yo n yc)) {op : Oper} (x : Operand) (ho : op.op = .load 39 x) {ev : Operand → Value} (hx : ev x = .pointer (some ⟨b, o, none⟩)) :
    (execOp ev op).run Try.prog u = .ok (.value (hkV h (.slice yo n yc))) u := by
  obtain ⟨d0, d1, d2, d3, d4⟩ := q
  unfold hkV
  simp only [execOp, ho, hx]
  go_simp
theorem hsame_held {h : Hk} {v1 v2 : Value} {W u : World} (hv1 : HMk W v1 h.ls) (hv2 : HMk W v2 h.ls) (hl : h.ls.length ≤ 1099511627776) (hL : Low W u) : Calls Try.prog 21 (#[hkV h v1, hkV h v2] ++ #[]) u fun e w' => ∃ x, e = .returned x ∧ Low W w' ∧ x = .bool true := by
  refine (rSame_f h v1 v2 u (HMk.keep hv1 hL (Nat.le_refl _)) (HMk.keep hv2 hL (Nat.le_refl _)) hl).mono ?_
  rintro e w' ⟨rfl, hB⟩
  exact ⟨_, rfl, hL.trans (hB.mono hL.size), rfl⟩

set_option maxRecDepth 10000 in
set_option maxHeartbeats 4000000 in
theorem rSameHunks_f (p1 p2 : List (Hk × Value)) (v1 v2 : Value) (w : World) (hv1 : HHp w v1 p1) (hv2 : HHp w v2 p2) (he : p1.map (·.1) = p2.map (·.1)) (hok : HOk p1) : Calls Try.prog 10 #[v1, v2] w fun e w' => e = .returned (.bool true) ∧ Below w.heap.size w w' := by
  obtain ⟨o1, c1, rfl⟩ := Holds.form hv1.row
  obtain ⟨o2, c2, rfl⟩ := Holds.form hv2.row
  have hl12 : p2.length = p1.length := by have := congrArg List.length he; simpa using this.symm
  have HE : Hid (p1.map (·.1) = p2.map (·.1)) := he
  have hpl : p1.length ≤ 1099511627776 := hok.1
  have HOK : Hid (HOk p1) := hok
  have HL : Hid (p2.length = p1.length) := hl12
  rw [hl12] at hv2 ⊢
  clear he hok hl12
  go_enter Try.func10, Try.ntmps10
  go_wp2
  go_loopw [5] (fun iv wr => ∃ k : Nat, k ≤ p1.length ∧ iv = .int .i64 (k : Int) ∧ Below w.heap.size w wr) (fun iv _ => p1.length - (intOf iv).toNat)
  case atStart => exact ⟨0, Nat.zero_le _, by go_num, Below.refl _ _⟩
  case round =>
    obtain ⟨k, hk, rfl, hB⟩ := hrel
    by_cases hlt : k < p1.length
    · obtain ⟨b1, f1, rfl, _, _⟩ := hv1.at (by omega)
      obtain ⟨b2, f2, rfl, _, _⟩ := hv2.at (by have := HL.out; omega)
      obtain ⟨x, y, hxy⟩ : ∃ x y, p1[k] = (x, y) := ⟨_, _, rfl⟩
      obtain ⟨x', z, hxz⟩ : ∃ x z, p2[k]'(by have := HL.out; omega) = (x, z) := ⟨_, _, rfl⟩
      obtain rfl : x' = x := by
        have h1 : (p1.map (·.1))[k]? = some x := by simp [hlt, hxy]
        have h2 : (p2.map (·.1))[k]? = some x' := by simp [List.getElem?_eq_getElem (show k < p2.length by have := HL.out; omega), hxz]
        rw [HE.out, h2] at h1
        simpa using h1
      obtain ⟨r1, hm1⟩ := hv1.take hB k hlt hxy
      obtain ⟨r2, hm2⟩ := hv2.take hB k (by have := HL.out; omega) hxz
      have hbd := (HOK.out.2 _ (List.getElem_mem hlt)).1
      rw [hxy] at hbd
      dsimp only at hbd
      obtain ⟨yo, yc, rfl⟩ := hm1.form
      obtain ⟨zo, zc, rfl⟩ := hm2.form
      have hr1 : ∀ u : World, Low wr u → HkAt u b1 (f1 + k * 5) x' (.slice yo x'.ls.length yc) := fun u hu => HkAt.low r1 hu
      have hr2 : ∀ u : World, Low wr u → HkAt u b2 (f2 + k * 5) x' (.slice zo x'.ls.length zc) := fun u hu => HkAt.low r2 hu
      have i1 : 0 ≤ (k : Int) := by omega
      have i2 : (k : Int) < (p1.length : Int) := by omega
      clear hxy hxz r1 r2
      go_wp2_with fail
      refine wp_region_noPanic ?_
      refine wp_region_held_drew (S := fun u => Low wr u) (by kernel_rfl) (Below.dN (Below.refl _ wr) 1) (fun hHeld => ?_)
      refine go_take 0 17 _ (.slice (some ⟨b1, f1, none⟩) p1.length c1) rfl (by kernel_rfl) (by kernel_rfl) (by kernel_rfl) (by kernel_rfl) (fun _ _ _ h => h) (Or.inl ⟨by kernel_rfl, fun u hu => by kernel_rfl⟩) hHeld ?_
      simp only [Act.put, List.setIfInBounds_toArray, List.set_cons_zero, List.set_cons_succ]
      refine go_take 1 18 _ (.int .i64 (k : Int)) rfl (by kernel_rfl) (by kernel_rfl) (by kernel_rfl) (by kernel_rfl) (fun _ _ _ h => h) (Or.inl ⟨by kernel_rfl, fun u hu => by kernel_rfl⟩) hHeld ?_
      simp only [Act.put, List.setIfInBounds_toArray, List.set_cons_zero, List.set_cons_succ]
      refine go_take 2 19 _ (.pointer (some ⟨b1, f1 + k * 5, none⟩)) rfl (by kernel_rfl) (by kernel_rfl) (by kernel_rfl) (by kernel_rfl) (fun _ _ _ h => h) (Or.inl ⟨by kernel_rfl, fun u hu => exec_ixH (c := c1) hlt (.tmp 17) (.tmp 18) (by kernel_rfl) (by kernel_rfl) (by kernel_rfl)⟩) hHeld ?_
      simp only [Act.put, List.setIfInBounds_toArray, List.set_cons_zero, List.set_cons_succ]
      refine go_take 3 20 _ (hkV x' (.slice yo x'.ls.length yc)) rfl (by kernel_rfl) (by kernel_rfl) (by kernel_rfl) (by kernel_rfl) (fun _ _ _ h => h) (Or.inl ⟨by kernel_rfl, fun u hu => load_hkR (hr1 u hu) (.tmp 19) (by kernel_rfl) (by kernel_rfl)⟩) hHeld ?_
      simp only [Act.put, List.setIfInBounds_toArray, List.set_cons_zero, List.set_cons_succ]
      refine go_take 4 21 _ (.slice (some ⟨b2, f2, none⟩) p1.length c2) rfl (by kernel_rfl) (by kernel_rfl) (by kernel_rfl) (by kernel_rfl) (fun _ _ _ h => h) (Or.inl ⟨by kernel_rfl, fun u hu => by kernel_rfl⟩) hHeld ?_
      simp only [Act.put, List.setIfInBounds_toArray, List.set_cons_zero, List.set_cons_succ]
      refine go_take 5 22 _ (.int .i64 (k : Int)) rfl (by kernel_rfl) (by kernel_rfl) (by kernel_rfl) (by kernel_rfl) (fun _ _ _ h => h) (Or.inl ⟨by kernel_rfl, fun u hu => by kernel_rfl⟩) hHeld ?_
      simp only [Act.put, List.setIfInBounds_toArray, List.set_cons_zero, List.set_cons_succ]
      refine go_take 6 23 _ (.pointer (some ⟨b2, f2 + k * 5, none⟩)) rfl (by kernel_rfl) (by kernel_rfl) (by kernel_rfl) (by kernel_rfl) (fun _ _ _ h => h) (Or.inl ⟨by kernel_rfl, fun u hu => exec_ixH (c := c2) hlt (.tmp 21) (.tmp 22) (by kernel_rfl) (by kernel_rfl) (by kernel_rfl)⟩) hHeld ?_
      simp only [Act.put, List.setIfInBounds_toArray, List.set_cons_zero, List.set_cons_succ]
      refine go_take 7 24 _ (hkV x' (.slice zo x'.ls.length zc)) rfl (by kernel_rfl) (by kernel_rfl) (by kernel_rfl) (by kernel_rfl) (fun _ _ _ h => h) (Or.inl ⟨by kernel_rfl, fun u hu => load_hkR (hr2 u hu) (.tmp 23) (by kernel_rfl) (by kernel_rfl)⟩) hHeld ?_
      simp only [Act.put, List.setIfInBounds_toArray, List.set_cons_zero, List.set_cons_succ]
      refine go_callE 8 25 _ rfl (by kernel_rfl) (by kernel_rfl) (by kernel_rfl) 21 (.func 21) #[.tmp 20, .tmp 24] #[39, 39] (by kernel_rfl) #[] (by kernel_rfl) #[hkV x' (.slice yo x'.ls.length yc), hkV x' (.slice zo x'.ls.length zc)] (by kernel_rfl) (enters_of Try.func21 (by kernel_rfl) rfl) _ (hsame_held hm1 hm2 hbd hHeld) ?_
      rintro _ u8 hHeld rfl
      simp only [Act.put, List.setIfInBounds_toArray, List.set_cons_zero, List.set_cons_succ]
      refine go_take 9 26 _ (.bool false) rfl (by kernel_rfl) (by kernel_rfl) (by kernel_rfl) (by kernel_rfl) (fun _ _ _ h => h) (Or.inl ⟨by kernel_rfl, fun u hu => by kernel_rfl⟩) hHeld ?_
      simp only [Act.put, List.setIfInBounds_toArray, List.set_cons_zero, List.set_cons_succ]
      refine wpAnyH_done (by kernel_rfl) ?_ _
      refine NoPanic.normal ?_
      have hB2 := hB.trans (Below.mono hHeld hB.size)
      go_wp2
      exact ⟨⟨k + 1, by omega, by go_num, hB2⟩, by simp [intOf]; omega⟩
    · have hend : decide ((k : Int) < (p1.length : Int)) = false := decide_eq_false (by omega)
      go_wp2
      go_ret
      exact ⟨rfl, hB⟩
end Go.Proofs.Ythckcdpgjdbgcaa

/- A row of numbers of one's own, at a known block: what is kept. -/
namespace Go.Proofs.Ythckcdpgjdbgcaa
open Go.RowKit

/-- the state of the walk -/
structure Ls (w : World) (g n : Nat) (Z : List Int) (u : World) : Prop where
  low : Below w.heap.size w u
  own : u.ownsRow w.heap.size 3 1 (.slice (some ⟨g, 0, none⟩) n n) n (icells Z)
theorem Ls.drewN {w u : World} {g n : Nat} {Z : List Int} (h : Ls w g n Z u) (k : Nat) : Ls w g n Z (u.drewN k) := ⟨Below.dN h.low k, h.own⟩
theorem Ls.keep {w u u' : World} {g n : Nat} {Z : List Int} (h : Ls w g n Z u) (hb : Below u.heap.size u u') : Ls w g n Z u' := ⟨h.low.trans (hb.mono h.low.size), owns_keep h.own hb⟩
theorem Ls.set {w u : World} {g n : Nat} {Z : List Int} (h : Ls w g n Z u) (k : Nat) (m : Int) : Ls w g n (Z.set k m) (u.setCell ⟨g, k, none⟩ (.int .i64 m)) := by
  obtain ⟨p1, g1⟩ := h.own.stored k (.int .i64 m)
  have e : (icells Z).set k (.int .i64 m) = icells (Z.set k m) := by simp [icells, List.map_set]
  rw [e] at p1
  exact ⟨h.low.grown g1 h.low.size (fun j hj => owns_ge h.own (by simpa [Value.ownBlock] using hj)), p1⟩
theorem Ls.len {w u : World} {g n : Nat} {Z : List Int} (h : Ls w g n Z u) : Z.length = n := by
  have := h.own.1
  rw [icells_length, Nat.mul_one] at this
  exact this
theorem Ls.at {w u : World} {g n : Nat} {Z : List Int} (h : Ls w g n Z u) {k : Nat} {z : Int} (hz : Z[k]? = some z) : u.cell? ⟨g, k, none⟩ = some (.int .i64 z) := by
  have hl := (List.getElem?_eq_some_iff.1 hz).1
  rw [h.len] at hl
  rw [h.own.cellAt k (by omega)]
  simp [icells, hz]
theorem low_grown {w u : World} (h : Low w u) (r : Option Nat) : w.grownBy u r := ⟨Below.os h, Below.tape h, Below.output h, Below.size h, fun k hk _ => Below.block h k hk⟩
theorem grown_set (u : World) (g j : Nat) (v : Value) : u.grownBy (u.setCell ⟨g, j, none⟩ v) (some g) := ⟨rfl, rfl, rfl, (KeepsWalks.setCell u _ v).size, fun k _ hk => Below.heap_setCell _ _ _ k (fun e => hk (by rw [e]))⟩
theorem ls_other {W0 u : World} {n : Nat} {K : List Int} {G : Nat} (h : Ls W0 G n K u) {g : Nat} (hg : G ≠ g) (hw : W0.heap.size ≤ g) (j : Nat) (v : Value) : Ls W0 G n K (u.setCell ⟨g, j, none⟩ v) :=
  ⟨h.low.grown (grown_set u g j v) h.low.size (fun q hq => by cases hq; exact hw), h.own.kept (grown_set u g j v) (.inr (fun e => by simp [Value.ownBlock] at e; omega))⟩
theorem grown_new {w u : World} {r : Option Nat} (h : w.grownBy u r) {B : Nat} (hB : w.heap.size ≤ B) (j : Nat) (v : Value) : w.grownBy (u.setCell ⟨B, j, none⟩ v) r :=
  ⟨h.os, h.tape, h.output, Nat.le_trans h.size (grown_set u B j v).size, fun k hk hn => (heap_setCell_other u _ k _ (fun e => by simp at e; omega)).trans (h.block k hk hn)⟩
theorem grown_drewN {w u : World} {r : Option Nat} (h : w.grownBy u r) (k : Nat) : w.grownBy (u.drewN k) r := ⟨h.os, h.tape, h.output, h.size, h.block⟩
end Go.Proofs.Ythckcdpgjdbgcaa

/- Hunks of one's own: a row of them, each with a row of lines of one's own; the reference's Copy, walked. -/
namespace Go.Proofs.Ythckcdpgjdbgcaa
open Go.RowKit

theorem own_lt {u : World} {base : Nat} {e : TypeId} {s : Nat} {v : Value} {n : Nat} {xs : List Value} (h : u.ownsRow base e s v n xs) {g : Nat} (hg : v.ownBlock = some g) : g < u.heap.size := by
  rcases h.2 with ⟨rfl, _⟩ | ⟨b, cap, cur, rfl, _, hb, _⟩
  · cases hg
  · simp [Value.ownBlock] at hg
    subst hg
    exact (Array.getElem?_eq_some_iff.1 hb).1
theorem own_ne {u : World} {base base' : Nat} {e e' : TypeId} {s s' : Nat} {v v' : Value} {n n' : Nat} {xs xs' : List Value} (h : u.ownsRow base e s v n xs) (h' : u.ownsRow base' e' s' v' n' xs') (he : e ≠ e') {g : Nat} (hg : v.ownBlock = some g) : v'.ownBlock ≠ some g := by
  intro hg'
  rcases h.2 with ⟨rfl, _⟩ | ⟨b, cap, cur, rfl, _, hb, _⟩
  · cases hg
  · rcases h'.2 with ⟨rfl, _⟩ | ⟨b', cap', cur', rfl, _, hb', _⟩
    · cases hg'
    · simp [Value.ownBlock] at hg hg'
      subst hg hg'
      rw [hb] at hb'
      simp at hb'
      exact he hb'.2
/-- a row of hunks of one's own -/
structure Hs (w : World) (ov : Value) (P : List (Hk × Value)) (u : World) : Prop where
  low : Below w.heap.size w u
  own : u.ownsRow w.heap.size 39 5 ov P.length (hkcells P)
  ins : ∀ x ∈ P, u.ownsRow w.heap.size 46 2 x.2 x.1.ls.length (mkcells x.1.ls)
theorem Hs.nil (w : World) : Hs w (.slice none 0 0) [] w := ⟨Below.refl _ _, hnil_row _ _ _ _, fun _ h => by cases h⟩
theorem Hs.alloc {w : World} {ov : Value} {P : List (Hk × Value)} {u : World} (h : Hs w ov P u) (o : Obj) : Hs w ov P (u.alloc o) := ⟨h.low.alloc h.low.size o, h.own.alloc o, fun x hx => (h.ins x hx).alloc o⟩
theorem Hs.drewN {w : World} {ov : Value} {P : List (Hk × Value)} {u : World} (h : Hs w ov P u) (n : Nat) : Hs w ov P (u.drewN n) := ⟨Below.dN h.low n, h.own, h.ins⟩
/-- what is written lies in a block that is none of theirs -/
theorem Hs.grown {w : World} {ov : Value} {P : List (Hk × Value)} {u u' : World} (h : Hs w ov P u) {g : Option Nat} (hg : u.grownBy u' g) (hb : ∀ k, g = some k → w.heap.size ≤ k) (h1 : ∀ k, g = some k → ov.ownBlock ≠ some k) (h2 : ∀ x ∈ P, ∀ k, g = some k → x.2.ownBlock ≠ some k) : Hs w ov P u' := by
  have key : ∀ {e : TypeId} {s : Nat} {v : Value} {n : Nat} {xs : List Value}, u.ownsRow w.heap.size e s v n xs → (∀ k, g = some k → v.ownBlock ≠ some k) → u'.ownsRow w.heap.size e s v n xs := by
    intro e s v n xs ho hne
    refine ⟨ho.1, ?_⟩
    rcases ho.2 with q | ⟨b, cap, cur, rfl, q2, q3, q4⟩
    · exact .inl q
    · refine .inr ⟨b, cap, cur, rfl, q2, ?_, q4⟩
      rw [hg.block b (Array.getElem?_eq_some_iff.1 q3).1 (fun e => hne b e.symm rfl)]
      exact q3
  exact ⟨h.low.grown hg h.low.size (fun k hk => hb k hk), key h.own h1, fun x hx => key (h.ins x hx) (h2 x hx)⟩
theorem Hs.lt {w : World} {ov : Value} {P : List (Hk × Value)} {u : World} (h : Hs w ov P u) : (∀ k, ov.ownBlock = some k → k < u.heap.size) ∧ ∀ x ∈ P, ∀ k, x.2.ownBlock = some k → k < u.heap.size := ⟨fun _ hk => own_lt h.own hk, fun x hx _ hk => own_lt (h.ins x hx) hk⟩
/-- one that is new, a box or a row, is none of theirs -/
theorem Hs.fresh {w : World} {ov : Value} {P : List (Hk × Value)} {u u1 u' : World} (h : Hs w ov P u) (h1 : Hs w ov P u1) {k : Nat} (hk : u.heap.size ≤ k) (hg : u1.grownBy u' (some k)) : Hs w ov P u' := by
  have hl := h.lt
  have hs := h.low.size
  refine h1.grown hg (fun j hj => by cases hj; omega) (fun j hj => by cases hj; intro e; have := hl.1 _ e; omega) (fun x hx j hj => by cases hj; intro e; have := hl.2 x hx _ e; omega)
/-- what it holds -/
theorem Hs.holds {w : World} {ov : Value} {P : List (Hk × Value)} {u : World} (h : Hs w ov P u) : HHp u ov P := ⟨holds_of h.own, fun x hx => holds_of (h.ins x hx)⟩
/-- a hunk more -/
theorem Hs.more {w : World} {ov : Value} {P : List (Hk × Value)} {u u' : World} (h : Hs w ov P u) {x : Hk} {y ov' : Value} (hy : u.ownsRow w.heap.size 46 2 y x.ls.length (mkcells x.ls)) (hg : u.grownBy u' ov.ownBlock) (ho : u'.ownsRow w.heap.size 39 5 ov' (P.length + 1) (hkcells P ++ hkC x y)) : Hs w ov' (P ++ [(x, y)]) u' := by
  have key : ∀ {v : Value} {n : Nat} {xs : List Value}, u.ownsRow w.heap.size 46 2 v n xs → u'.ownsRow w.heap.size 46 2 v n xs := by
    intro v n xs hv
    refine ⟨hv.1, ?_⟩
    rcases hv.2 with q | ⟨b, cap, cur, rfl, q2, q3, q4⟩
    · exact .inl q
    · refine .inr ⟨b, cap, cur, rfl, q2, ?_, q4⟩
      rw [hg.block b (Array.getElem?_eq_some_iff.1 q3).1 (fun e => own_ne h.own hv (by decide) e.symm rfl)]
      exact q3
  refine ⟨h.low.grown hg h.low.size (fun j hj => owns_ge h.own hj), ?_, fun z hz => ?_⟩
  · rw [hkcells_append, List.length_append]
    have e : hkcells [(x, y)] = hkC x y := by simp [hkcells]
    rw [e]
    exact ho
  · rcases List.mem_append.1 hz with hz | hz
    · exact key (h.ins z hz)
    · rw [List.mem_singleton.1 hz]
      exact key hy
/-- one hunk, as a new row of one -/
theorem one_row (w : World) (x : Hk) (y : Value) : Holds (w.alloc (hkO x y)) (.slice (some ⟨w.heap.size, 0, none⟩) 1 1) 1 (hkC x y) := new_holds w #[.int .i64 x.A, .int .i64 x.AN, .int .i64 x.B, .int .i64 x.BN, y] 39 1 1 (by decide)
theorem hkC_one (x : Hk) {o : Option Addr} {n c : Nat} : ∀ u ∈ hkC x (.slice o n c), u.oneCell' = true := by
  intro u hu
  simp only [hkC, List.mem_cons, List.not_mem_nil, or_false] at hu
  rcases hu with rfl | rfl | rfl | rfl | rfl <;> rfl
theorem Hx.setl {u : World} {b : Nat} {h : Hk} {v : Value} (q : Hx u b h v) (z : Value) : Hx (u.setCell ⟨b, 4, none⟩ z) b h z := heap_setCell_same u b 4 _ _ z q

set_option maxRecDepth 10000 in
set_option maxHeartbeats 4000000 in
theorem rCopy_f (p : List (Hk × Value)) (v : Value) (w : World) (hv : HHp w v p) (hok : HOk p) : Calls Try.prog 13 #[v] w fun e w' => ∃ v' P, e = .returned v' ∧ Hs w v' P w' ∧ P.map (·.1) = p.map (·.1) := by
  obtain ⟨vo, vc, rfl⟩ := Holds.form hv.row
  have hpl : p.length ≤ 1099511627776 := hok.1
  have HOK : Hid (HOk p) := hok
  clear hok
  go_enter Try.func13, Try.ntmps13
  go_wp2
  go_loopw [3, 4] (fun ov iv wr => ∃ (k : Nat) (P : List (Hk × Value)), k ≤ p.length ∧ iv = .int .i64 (k : Int) ∧ (∃ oo oc, ov = .slice oo k oc) ∧ Hs w ov P wr ∧ Hid (P.map (·.1) = (p.take k).map (·.1)) ∧ Hid (P.length = k)) (fun _ iv _ => p.length - (intOf iv).toNat)
  case atStart => exact ⟨0, [], Nat.zero_le _, by go_num, ⟨_, _, rfl⟩, Hs.nil w, rfl, rfl⟩
  case round =>
    obtain ⟨k, P, hk, rfl, ⟨oo, oc, rfl⟩, hS, HP, HPL⟩ := hrel
    by_cases hlt : k < p.length
    · obtain ⟨b, off, rfl, hb, _⟩ := hv.at (by omega)
      obtain ⟨x, y, hxy⟩ : ∃ x y, p[k] = (x, y) := ⟨_, _, rfl⟩
      obtain ⟨⟨c0, c1, c2, c3, c4⟩, hm⟩ := hv.take hS.low k hlt hxy
      have hbd := (HOK.out.2 _ (List.getElem_mem hlt)).1
      rw [hxy] at hbd
      dsimp only at hbd
      obtain ⟨yo, yc, rfl⟩ := hm.form
      have i1 : 0 ≤ (k : Int) := by omega
      have i2 : (k : Int) < (p.length : Int) := by omega
      have hxb := Hx.new wr x (.slice yo x.ls.length yc)
      have hB1 : Below wr.heap.size wr (wr.alloc (hkO x (.slice yo x.ls.length yc))) := (Below.refl _ wr).alloc (Nat.le_refl _) _
      have hS1 := hS.alloc (hkO x (.slice yo x.ls.length yc))
      have hm1 := HMk.keep hm hB1 (Nat.le_refl _)
      have hsz1 : (wr.alloc (hkO x (.slice yo x.ls.length yc))).heap.size = wr.heap.size + 1 := by simp
      have hW1 : wr.alloc (Obj.cells #[Value.int IntKind.i64 x.A, Value.int IntKind.i64 x.AN, Value.int IntKind.i64 x.B, Value.int IntKind.i64 x.BN, .slice yo x.ls.length yc] 39) = wr.alloc (hkO x (.slice yo x.ls.length yc)) := rfl
      go_upto_region 6 with fail
      generalize wr.alloc (hkO x (.slice yo x.ls.length yc)) = W1 at *
      clear hW1
      obtain ⟨x0, x1, x2, x3, x4⟩ := hxb.cells
      have hB2 : Below W1.heap.size W1 (W1.alloc (.cells #[] 46)) := (Below.refl _ W1).alloc (Nat.le_refl _) _
      have hxb2 := hxb.low hB2
      have hm2 := HMk.keep hm1 hB2 (Nat.le_refl _)
      have hS2 := hS1.alloc (.cells #[] 46)
      have hnil := nil_row_new (e := 46) (s := 2) W1 w.heap.size W1.heap.size rfl (by have := hS1.low.size; exact this)
      obtain ⟨y0, y1, y2, y3, y4⟩ := hxb2.cells
      have hlow1 := hS1.low.size
      have hsW2 : (W1.alloc (.cells #[] 46)).heap.size = W1.heap.size + 1 := by simp
      have HSW2 : Hid ((W1.alloc (.cells #[] 46)).heap.size = W1.heap.size + 1) := hsW2
      have HSZ1 : Hid (W1.heap.size = wr.heap.size + 1) := hsz1
      clear hsW2 hsz1
      go_wp2_with (at_builtin; refine wpList_append_w _ (by kernel_rfl) (.tmp 16) (.tmp 18) 37 46 (.agg #[.int .u8 0, .string ⟨#[]⟩]) 2 24 rfl Try.underlying37 infoMk rfl (by decide) (by decide) w.heap.size _ _ _ rfl hnil _ x.ls.length (mkcells x.ls) rfl hm2 (mkcells_length _) (mkcells_one _) (by omega) (by have := HSW2.out; omega) ?_)
      intro v3 W3 hown3 hg3 hob3
      obtain ⟨ro, rc, rfl⟩ := (holds_of hown3).form
      have hS3 : Hs w (.slice oo k oc) P W3 := hS.fresh hS2 (k := W1.heap.size) (by have := HSZ1.out; omega) hg3
      have hxb3 : Hx W3 wr.heap.size x (.slice yo x.ls.length yc) := hxb2.keep hg3 (by simp [Value.ownBlock]; have := HSZ1.out; omega)
      obtain ⟨z0, z1, z2, z3, z4⟩ := hxb3.cells
      have zf := hxb3.frozen 4
      have hxb4 := hxb3.setl (.slice ro x.ls.length rc)
      have hg4 := grown_set W3 wr.heap.size 4 (.slice ro x.ls.length rc)
      have hS4 : Hs w (.slice oo k oc) P (W3.setCell ⟨wr.heap.size, 4, none⟩ (.slice ro x.ls.length rc)) := hS.fresh hS3 (k := wr.heap.size) (Nat.le_refl _) hg4
      have hown4 : (W3.setCell ⟨wr.heap.size, 4, none⟩ (.slice ro x.ls.length rc)).ownsRow w.heap.size 46 2 (.slice ro x.ls.length rc) x.ls.length (mkcells x.ls) := hown3.kept hg4 (.inr (by
        have e1 := HSZ1.out
        have e2 := HSW2.out
        rcases hob3 with hob3 | hob3
        · rw [hob3]; simp [Value.ownBlock]; omega
        · rw [hob3]; simp only [ne_eq, Option.some.injEq]; omega))
      obtain ⟨t0, t1, t2, t3, t4⟩ := hxb4.cells
      clear hg3 hg4 hob3 hnil hS2 hS3 hxb hxb2 hxb3 hm1 hm2 x0 x1 x2 x3 x4 y0 y1 y2 y3 y4
      go_upto_region 7 with fail
      generalize W3.setCell ⟨wr.heap.size, 4, none⟩ (.slice ro x.ls.length rc) = W4 at *
      have hS5 := hS4.alloc (hkO x (.slice ro x.ls.length rc))
      have hrow5 := one_row W4 x (.slice ro x.ls.length rc)
      have hown5 := hown4.alloc (hkO x (.slice ro x.ls.length rc))
      have hl4 := hS4.low.size
      have hW5 : W4.alloc (Obj.cells #[Value.int IntKind.i64 x.A, Value.int IntKind.i64 x.AN, Value.int IntKind.i64 x.B, Value.int IntKind.i64 x.BN, .slice ro x.ls.length rc] 39) = W4.alloc (hkO x (.slice ro x.ls.length rc)) := rfl
      have HS5 : Hid ((W4.alloc (hkO x (.slice ro x.ls.length rc))).heap.size = W4.heap.size + 1) := (by show _ = _; simp)
      have hownP := hS5.own
      rw [HPL.out] at hownP
      go_wp2_with (at_builtin; refine wpList_append_w _ (by kernel_rfl) (.tmp 21) (.tmp 23) 24 39 (.agg #[.int .i64 0, .int .i64 0, .int .i64 0, .int .i64 0, .slice none 0 0]) 5 56 rfl Try.underlying24 infoHk rfl (by decide) (by decide) w.heap.size _ _ _ rfl hownP _ 1 (hkC x (.slice ro x.ls.length rc)) rfl hrow5 rfl (hkC_one _) (by omega) (by have := HS5.out; omega) ?_)
      intro v6 W6 hown6 hg6 _
      have hS6 := hS5.more hown5 hg6 (ov' := v6) (by rw [HPL.out]; exact hown6)
      obtain ⟨ro6, rc6, rfl⟩ := (holds_of hown6).form
      have HP2 : Hid ((P ++ [(x, Value.slice ro x.ls.length rc)]).map (·.1) = (p.take (k + 1)).map (·.1)) := (by
        show _ = _
        rw [List.map_append, HP.out, List.take_succ_eq_append_getElem hlt, List.map_append, hxy]
        rfl)
      have HPL2 : Hid ((P ++ [(x, Value.slice ro x.ls.length rc)]).length = k + 1) := (by show _ = _; rw [List.length_append, HPL.out]; rfl)
      clear hg6 hown6 hownP hrow5
      go_wp2
      exact ⟨⟨k + 1, P ++ [(x, .slice ro x.ls.length rc)], by omega, by go_num, ⟨_, _, rfl⟩, hS6, HP2, HPL2⟩, by simp [intOf]; omega⟩
    · have hend : decide ((k : Int) < (p.length : Int)) = false := decide_eq_false (by omega)
      obtain rfl : k = p.length := by omega
      go_wp2
      go_ret
      refine ⟨_, rfl, P, hS, ?_⟩
      rw [HP.out, List.take_length]
end Go.Proofs.Ythckcdpgjdbgcaa
