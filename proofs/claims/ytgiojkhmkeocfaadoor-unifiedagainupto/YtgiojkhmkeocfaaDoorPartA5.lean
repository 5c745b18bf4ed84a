/-
  Texts that belong together, joined: HuRf4, HuRf5, HuRf6, HuRf7, HuOwn, HuC1, HuIv.
-/
import Derived.Test.YtgiojkhmkeocfaaDoorPartA4
import Derived.Deep.CutRange
import Derived.Deep.DeepCutAuto

/- The reference's Check of layer 11, walked. -/
namespace Go.Proofs.YtgiojkhmkeocfaaDoor
open Go.RowKit

/-- a hunk is read out of its box -/
theorem load_hk {u : World} {b : Nat} {h : Hk} {v : Value} (q : Hx u b h v) {op : Oper} (x : Operand) (ho : op.op = .load 43 x) {ev : Operand → Value} (hx : ev x = .pointer (some ⟨b, 0, none⟩)) :
    (execOp ev op).run Tryd.prog u = .ok (.value (hkV h v)) u := by
  have hL : (loadVar 43 ⟨b, 0, none⟩).run Tryd.prog u = .ok (hkV h v) u := run_loadVar_row u b _ _ _ _ _ q Tryd.underlying43 rfl (by kernel_rfl)
  simp only [execOp, ho, hx, Instr.loadAt, Instr.sureAddr, Sem.run_bind, Sem.run_pure, Result.andThen_ok, hL]
/-- Old and New within a region that draws -/
theorem old_held {h : Hk} {v : Value} {W u : World} (hv : HMk W v h.ls) (hl : h.ls.length ≤ 1099511627776) {R : List (List UInt8)} (HR : Hid (oldL h = R)) (hL : Low W u) : Calls Tryd.prog 134 (#[hkV h v] ++ #[]) u fun e w' => ∃ x, e = .returned x ∧ Low W w' ∧ ∃ o c, x = .slice o R.length c := by
  refine (rOld_f h v u (HMk.keep hv hL (Nat.le_refl _)) hl R HR).mono ?_
  rintro e w' ⟨x, rfl, hx, hB⟩
  obtain ⟨o, c, rfl⟩ := Holds.form hx
  refine ⟨_, rfl, hL.trans (hB.mono hL.size), o, c, ?_⟩
  rfl
theorem new_held {h : Hk} {v : Value} {W u : World} (hv : HMk W v h.ls) (hl : h.ls.length ≤ 1099511627776) {R : List (List UInt8)} (HR : Hid (newL h = R)) (hL : Low W u) : Calls Tryd.prog 135 (#[hkV h v] ++ #[]) u fun e w' => ∃ x, e = .returned x ∧ Low W w' ∧ ∃ o c, x = .slice o R.length c := by
  refine (rNew_f h v u (HMk.keep hv hL (Nat.le_refl _)) hl R HR).mono ?_
  rintro e w' ⟨x, rfl, hx, hB⟩
  obtain ⟨o, c, rfl⟩ := Holds.form hx
  refine ⟨_, rfl, hL.trans (hB.mono hL.size), o, c, ?_⟩
  rfl

set_option maxRecDepth 10000 in
set_option maxHeartbeats 4000000 in
theorem rhCheck_f (h : Hk) (v : Value) (w : World) (hv : HMk w v h.ls) (hl : h.ls.length ≤ 1099511627776) (htx : ∀ m ∈ h.ls, m.tx.length ≤ 1099511627776) (r : Int) (HR : Hid (chkH h = r)) : Calls Tryd.prog 97 #[hkV h v] w fun e w' => e = .returned (.int .i64 r) ∧ Below w.heap.size w w' := by
  obtain ⟨A, AN, B, BN, ls⟩ := h
  dsimp only at hv hl htx
  obtain ⟨lo, lc, rfl⟩ := HMk.form hv
  have hx := Hx.new w ⟨A, AN, B, BN, ls⟩ (.slice lo ls.length lc)
  have hBl : Below w.heap.size w (w.alloc (hkO ⟨A, AN, B, BN, ls⟩ (.slice lo ls.length lc))) := (Below.refl _ w).alloc (Nat.le_refl _) _
  have hv1 := HMk.keep hv hBl (Nat.le_refl _)
  have HTX : Hid (∀ m ∈ ls, m.tx.length ≤ 1099511627776) := htx
  have HSZ : Hid ((w.alloc (hkO ⟨A, AN, B, BN, ls⟩ (.slice lo ls.length lc))).heap.size = w.heap.size + 1) := (by show _ = _; simp)
  clear htx hv
  obtain ⟨x0, x1, x2, x3, x4⟩ := hx.cells
  unfold hkV
  dsimp only at x0 x1 x2 x3 x4 ⊢
  have hW0 : w.alloc (hkO ⟨A, AN, B, BN, ls⟩ (.slice lo ls.length lc)) = w.alloc (Obj.cells #[Value.int IntKind.i64 A, Value.int IntKind.i64 AN, Value.int IntKind.i64 B, Value.int IntKind.i64 BN, .slice lo ls.length lc] 43) := rfl
  generalize w.alloc (hkO ⟨A, AN, B, BN, ls⟩ (.slice lo ls.length lc)) = W at *
  have hW := hW0.symm
  clear hW0
  go_enter Tryd.func97, Tryd.ntmps97
  go_upto_region 1 with fail
  clear hW
  obtain ⟨g, hg⟩ : ∃ g, rngB ⟨A, AN, B, BN, ls⟩ = g := ⟨_, rfl⟩
  have HGG : Hid (rngB ⟨A, AN, B, BN, ls⟩ = g) := hg
  clear hg
  go_cut [45] from 4 to 45 (fun c wz => c = .bool (!g) ∧ wz = W)
  case first =>
    obtain ⟨p1, hp1⟩ : ∃ p, nat31 A = p := ⟨_, rfl⟩
    obtain ⟨p2, hp2⟩ : ∃ p, nat31 AN = p := ⟨_, rfl⟩
    obtain ⟨p3, hp3⟩ : ∃ p, nat31 B = p := ⟨_, rfl⟩
    obtain ⟨p4, hp4⟩ : ∃ p, nat31 BN = p := ⟨_, rfl⟩
    have HG : Hid ((p1 && p2 && p3 && p4 && !(decide (A = 0) && decide (0 < AN)) && !(decide (B = 0) && decide (0 < BN))) = g) := (by show _ = _; rw [← HGG.out, ← hp1, ← hp2, ← hp3, ← hp4]; rfl)
    clear HGG HR
    go_wp2_with fail
    refine (rnumber_any A W).mono ?_
    rintro e w1 ⟨rfl, hw⟩
    rw [hp1, hw]
    clear hw
    cases p1 with
    | false =>
      obtain rfl : g = false := by rw [← HG.out]; simp
      clear HG hp1 hp2 hp3 hp4
      go_wp2
      go_meet
      case rel => exact ⟨rfl, rfl⟩
    | true =>
      go_wp2_with fail
      refine (rnumber_any AN W).mono ?_
      rintro e w1 ⟨rfl, hw⟩
      rw [hp2, hw]
      clear hw
      cases p2 with
      | false =>
        obtain rfl : g = false := by rw [← HG.out]; simp
        clear HG hp1 hp2 hp3 hp4
        go_wp2
        go_meet
        case rel => exact ⟨rfl, rfl⟩
      | true =>
        go_wp2_with fail
        refine (rnumber_any B W).mono ?_
        rintro e w1 ⟨rfl, hw⟩
        rw [hp3, hw]
        clear hw
        cases p3 with
        | false =>
          obtain rfl : g = false := by rw [← HG.out]; simp
          clear HG hp1 hp2 hp3 hp4
          go_wp2
          go_meet
          case rel => exact ⟨rfl, rfl⟩
        | true =>
          go_wp2_with fail
          refine (rnumber_any BN W).mono ?_
          rintro e w1 ⟨rfl, hw⟩
          rw [hp4, hw]
          clear hw
          cases p4 with
          | false =>
            obtain rfl : g = false := by rw [← HG.out]; simp
            clear HG hp1 hp2 hp3 hp4
            go_wp2
            go_meet
            case rel => exact ⟨rfl, rfl⟩
          | true =>
            by_cases z1 : A = 0
            · subst z1
              by_cases z2 : 0 < AN
              · obtain rfl : g = false := by rw [← HG.out]; simp [z2]
                clear HG hp1 hp2 hp3 hp4
                go_wp2
                go_meet
                case rel => exact ⟨rfl, rfl⟩
              · have z3 : decide (0 < AN) = false := decide_eq_false z2
                by_cases z4 : B = 0
                · subst z4
                  by_cases z5 : 0 < BN
                  · obtain rfl : g = false := by rw [← HG.out]; simp [z5]
                    clear HG hp1 hp2 hp3 hp4
                    go_wp2
                    go_meet
                    case rel => exact ⟨rfl, rfl⟩
                  · obtain rfl : g = true := by rw [← HG.out]; simp [z2, z5]
                    have z6 : decide (0 < BN) = false := decide_eq_false z5
                    clear HG hp1 hp2 hp3 hp4
                    go_wp2
                    go_meet
                    case rel => exact ⟨rfl, rfl⟩
                · obtain rfl : g = true := by rw [← HG.out]; simp [z2, z4]
                  have z6 : (B == 0) = false := by simpa using z4
                  clear HG hp1 hp2 hp3 hp4
                  go_wp2
                  go_meet
                  case rel => exact ⟨rfl, rfl⟩
            · have z3 : (A == 0) = false := by simpa using z1
              by_cases z4 : B = 0
              · subst z4
                by_cases z5 : 0 < BN
                · obtain rfl : g = false := by rw [← HG.out]; simp [z5]
                  clear HG hp1 hp2 hp3 hp4
                  go_wp2
                  go_meet
                  case rel => exact ⟨rfl, rfl⟩
                · obtain rfl : g = true := by rw [← HG.out]; simp [z1, z5]
                  have z6 : decide (0 < BN) = false := decide_eq_false z5
                  clear HG hp1 hp2 hp3 hp4
                  go_wp2
                  go_meet
                  case rel => exact ⟨rfl, rfl⟩
              · obtain rfl : g = true := by rw [← HG.out]; simp [z1, z4]
                have z6 : (B == 0) = false := by simpa using z4
                clear HG hp1 hp2 hp3 hp4
                go_wp2
                go_meet
                case rel => exact ⟨rfl, rfl⟩
  case rest =>
    obtain ⟨rfl, rfl⟩ := hcut
    cases g with
    | false =>
      have HE : Hid (r = 2) := (by have hg := HGG.out; show _ = _; rw [← HR.out]; simp [chkH, hg])
      clear HGG HR
      go_wp2
      go_ret
      exact ⟨ret_int HE.out.symm, hBl⟩
    | true =>
      have HG : Hid (rngB ⟨A, AN, B, BN, ls⟩ = true) := HGG.out
      clear HGG
      obtain ⟨fb, hfb⟩ : ∃ f, fldB ls = f := ⟨_, rfl⟩
      have HFB : Hid (fldB ls = fb) := hfb
      clear hfb
      go_wp2_with fail
      refine (rfields_f ⟨A, AN, B, BN, ls⟩ _ _ hv1 hl HTX.out fb HFB).mono ?_
      rintro e W4 ⟨rfl, hB4⟩
      have hB04 := hBl.trans (hB4.mono hBl.size)
      cases fb with
      | false =>
        have HE : Hid (r = 6) := (by
          have h1 := HG.out
          have h2 := HFB.out
          show _ = _
          rw [← HR.out]
          simp [chkH, h1, h2])
        clear HR HG HFB
        go_wp2
        go_ret
        exact ⟨ret_int HE.out.symm, hB04⟩
      | true =>
        have hxW : Hx W4 w.heap.size ⟨A, AN, B, BN, ls⟩ (.slice lo ls.length lc) := hx.low hB4
        have hv4 := HMk.keep hv1 hB4 (Nat.le_refl _)
        obtain ⟨RO, hO⟩ : ∃ RO, oldL ⟨A, AN, B, BN, ls⟩ = RO := ⟨_, rfl⟩
        obtain ⟨RN, hN⟩ : ∃ RN, newL ⟨A, AN, B, BN, ls⟩ = RN := ⟨_, rfl⟩
        have HO : Hid (oldL ⟨A, AN, B, BN, ls⟩ = RO) := hO
        have HN : Hid (newL ⟨A, AN, B, BN, ls⟩ = RN) := hN
        obtain ⟨ol, hol⟩ : ∃ n, RO.length = n := ⟨_, rfl⟩
        obtain ⟨nl, hnl⟩ : ∃ n, RN.length = n := ⟨_, rfl⟩
        have HE : Hid ((if AN ≠ (ol : Int) ∨ BN ≠ (nl : Int) then (120 : Int) else if ls.all (fun m => decide (m.sg = 32)) = true then 50 else 0) = r) := (by
          have h1 := HG.out
          have h2 := HFB.out
          show _ = _
          rw [← HR.out, ← hol, ← hnl, ← hO, ← hN]
          simp only [chkH, h1, h2, Bool.true_eq_false, if_false])
        have hxx : ∀ u : World, Low W4 u → Hx u w.heap.size ⟨A, AN, B, BN, ls⟩ (.slice lo ls.length lc) := fun u hu => hxW.low hu
        have hx4 : ∀ u : World, Low W4 u → u.cell? ⟨w.heap.size, 0, none⟩ = some (.int .i64 A) ∧ u.cell? ⟨w.heap.size, 1, none⟩ = some (.int .i64 AN) ∧ u.cell? ⟨w.heap.size, 2, none⟩ = some (.int .i64 B) ∧ u.cell? ⟨w.heap.size, 3, none⟩ = some (.int .i64 BN) ∧ u.cell? ⟨w.heap.size, 4, none⟩ = some (.slice lo ls.length lc) := fun u hu => (hxx u hu).cells
        clear hO hN HR HG HFB x0 x1 x2 x3 x4
        go_upto_region 5 with fail
        obtain ⟨cb, hcb⟩ : ∃ b, decide (AN ≠ (ol : Int) ∨ BN ≠ (nl : Int)) = b := ⟨_, rfl⟩
        have HCB : Hid (decide (AN ≠ (ol : Int) ∨ BN ≠ (nl : Int)) = cb) := hcb
        clear hcb
        go_cut [62] from 49 to 62 (fun c wz => c = .bool cb ∧ Low W4 wz)
        case first =>
          have hlow : Low W4 (W4.drewN 1) := Below.dN (Below.refl _ W4) 1
          by_cases z1 : AN = (ol : Int)
          · have hne : (AN != (ol : Int)) = false := by simpa using z1
            by_cases z2 : BN = (nl : Int)
            · have hne2 : (BN != (nl : Int)) = false := by simpa using z2
              obtain rfl : cb = false := by rw [← HCB.out]; simp [z1, z2]
              clear HCB z1 z2
              refine wp_region_noPanic ?_
              refine wp_region_held_drew (S := fun u => Low W4 u) (by kernel_rfl) hlow (fun hHeld => ?_)
              refine go_take 0 49 _ (.pointer (some ⟨w.heap.size, 1, none⟩)) rfl (by kernel_rfl) (by kernel_rfl) (by kernel_rfl) (by kernel_rfl) (fun _ _ _ h => h) (Or.inl ⟨by kernel_rfl, fun u hu => by kernel_rfl⟩) hHeld ?_
              simp only [Act.put, List.setIfInBounds_toArray, List.set_cons_zero, List.set_cons_succ]
              refine go_take 1 50 _ (.int .i64 AN) rfl (by kernel_rfl) (by kernel_rfl) (by kernel_rfl) (by kernel_rfl) (fun _ _ _ h => h) (Or.inl ⟨by kernel_rfl, fun u hu => load_int (hx4 u hu).2.1 (.tmp 49) (by kernel_rfl) (by kernel_rfl)⟩) hHeld ?_
              simp only [Act.put, List.setIfInBounds_toArray, List.set_cons_zero, List.set_cons_succ]
              refine go_take 2 51 _ (hkV ⟨A, AN, B, BN, ls⟩ (.slice lo ls.length lc)) rfl (by kernel_rfl) (by kernel_rfl) (by kernel_rfl) (by kernel_rfl) (fun _ _ _ h => h) (Or.inl ⟨by kernel_rfl, fun u hu => load_hk (hxx u hu) (.tmp 1) (by kernel_rfl) (by kernel_rfl)⟩) hHeld ?_
              simp only [Act.put, List.setIfInBounds_toArray, List.set_cons_zero, List.set_cons_succ]
              refine go_callE 3 52 _ rfl (by kernel_rfl) (by kernel_rfl) (by kernel_rfl) 134 (.func 134) #[.tmp 51] #[43] (by kernel_rfl) #[] (by kernel_rfl) #[hkV ⟨A, AN, B, BN, ls⟩ (.slice lo ls.length lc)] (by kernel_rfl) (enters_of Tryd.func134 (by kernel_rfl) rfl) _ (old_held hv4 hl HO hHeld) ?_
              rintro v5 w5 hu5 ⟨o5, c5, rfl⟩
              rw [hol]
              replace hHeld := hu5
              simp only [Act.put, List.setIfInBounds_toArray, List.set_cons_zero, List.set_cons_succ]
              refine go_take 4 53 _ (.int .i64 (ol : Int)) rfl (by kernel_rfl) (by kernel_rfl) (by kernel_rfl) (by kernel_rfl) (fun _ _ _ h => h) (Or.inl ⟨by kernel_rfl, fun u hu => by kernel_rfl⟩) hHeld ?_
              simp only [Act.put, List.setIfInBounds_toArray, List.set_cons_zero, List.set_cons_succ]
              refine go_take 5 54 _ (.bool (AN != (ol : Int))) rfl (by kernel_rfl) (by kernel_rfl) (by kernel_rfl) (by kernel_rfl) (fun _ _ _ h => h) (Or.inl ⟨by kernel_rfl, fun u hu => by kernel_rfl⟩) hHeld ?_
              simp only [Act.put, List.setIfInBounds_toArray, List.set_cons_zero, List.set_cons_succ]
              simp only [hne]
              refine go_take 6 55 _ (.bool false) rfl (by kernel_rfl) (by kernel_rfl) (by kernel_rfl) (by kernel_rfl) (fun _ _ _ h => h) (Or.inl ⟨by kernel_rfl, fun u hu => by kernel_rfl⟩) hHeld ?_
              simp only [Act.put, List.setIfInBounds_toArray, List.set_cons_zero, List.set_cons_succ]
              refine go_take 7 56 _ (.pointer (some ⟨w.heap.size, 3, none⟩)) rfl (by kernel_rfl) (by kernel_rfl) (by kernel_rfl) (by kernel_rfl) (fun _ _ _ h => h) (Or.inl ⟨by kernel_rfl, fun u hu => by kernel_rfl⟩) hHeld ?_
              simp only [Act.put, List.setIfInBounds_toArray, List.set_cons_zero, List.set_cons_succ]
              refine go_take 8 57 _ (.int .i64 BN) rfl (by kernel_rfl) (by kernel_rfl) (by kernel_rfl) (by kernel_rfl) (fun _ _ _ h => h) (Or.inl ⟨by kernel_rfl, fun u hu => load_int (hx4 u hu).2.2.2.1 (.tmp 56) (by kernel_rfl) (by kernel_rfl)⟩) hHeld ?_
              simp only [Act.put, List.setIfInBounds_toArray, List.set_cons_zero, List.set_cons_succ]
              refine go_take 9 58 _ (hkV ⟨A, AN, B, BN, ls⟩ (.slice lo ls.length lc)) rfl (by kernel_rfl) (by kernel_rfl) (by kernel_rfl) (by kernel_rfl) (fun _ _ _ h => h) (Or.inl ⟨by kernel_rfl, fun u hu => load_hk (hxx u hu) (.tmp 1) (by kernel_rfl) (by kernel_rfl)⟩) hHeld ?_
              simp only [Act.put, List.setIfInBounds_toArray, List.set_cons_zero, List.set_cons_succ]
              refine go_callE 10 59 _ rfl (by kernel_rfl) (by kernel_rfl) (by kernel_rfl) 135 (.func 135) #[.tmp 58] #[43] (by kernel_rfl) #[] (by kernel_rfl) #[hkV ⟨A, AN, B, BN, ls⟩ (.slice lo ls.length lc)] (by kernel_rfl) (enters_of Tryd.func135 (by kernel_rfl) rfl) _ (new_held hv4 hl HN hHeld) ?_
              rintro v6 w6 hu6 ⟨o6, c6, rfl⟩
              rw [hnl]
              replace hHeld := hu6
              simp only [Act.put, List.setIfInBounds_toArray, List.set_cons_zero, List.set_cons_succ]
              refine go_take 11 60 _ (.int .i64 (nl : Int)) rfl (by kernel_rfl) (by kernel_rfl) (by kernel_rfl) (by kernel_rfl) (fun _ _ _ h => h) (Or.inl ⟨by kernel_rfl, fun u hu => by kernel_rfl⟩) hHeld ?_
              simp only [Act.put, List.setIfInBounds_toArray, List.set_cons_zero, List.set_cons_succ]
              refine go_take 12 61 _ (.bool (BN != (nl : Int))) rfl (by kernel_rfl) (by kernel_rfl) (by kernel_rfl) (by kernel_rfl) (fun _ _ _ h => h) (Or.inl ⟨by kernel_rfl, fun u hu => by kernel_rfl⟩) hHeld ?_
              simp only [Act.put, List.setIfInBounds_toArray, List.set_cons_zero, List.set_cons_succ]
              simp only [hne2]
              refine go_take 13 62 _ (.bool false) rfl (by kernel_rfl) (by kernel_rfl) (by kernel_rfl) (by kernel_rfl) (fun _ _ _ h => h) (Or.inl ⟨by kernel_rfl, fun u hu => by kernel_rfl⟩) hHeld ?_
              simp only [Act.put, List.setIfInBounds_toArray, List.set_cons_zero, List.set_cons_succ]
              refine wpAnyH_done (by kernel_rfl) ?_ _
              refine NoPanic.normal ?_
              go_wp2_with fail
              go_meet
              case rel => exact ⟨rfl, hHeld⟩
            · have hne2 : (BN != (nl : Int)) = true := by simpa using z2
              obtain rfl : cb = true := by rw [← HCB.out]; simp [z2]
              clear HCB z1 z2
              refine wp_region_noPanic ?_
              refine wp_region_held_drew (S := fun u => Low W4 u) (by kernel_rfl) hlow (fun hHeld => ?_)
              refine go_take 0 49 _ (.pointer (some ⟨w.heap.size, 1, none⟩)) rfl (by kernel_rfl) (by kernel_rfl) (by kernel_rfl) (by kernel_rfl) (fun _ _ _ h => h) (Or.inl ⟨by kernel_rfl, fun u hu => by kernel_rfl⟩) hHeld ?_
              simp only [Act.put, List.setIfInBounds_toArray, List.set_cons_zero, List.set_cons_succ]
              refine go_take 1 50 _ (.int .i64 AN) rfl (by kernel_rfl) (by kernel_rfl) (by kernel_rfl) (by kernel_rfl) (fun _ _ _ h => h) (Or.inl ⟨by kernel_rfl, fun u hu => load_int (hx4 u hu).2.1 (.tmp 49) (by kernel_rfl) (by kernel_rfl)⟩) hHeld ?_
              simp only [Act.put, List.setIfInBounds_toArray, List.set_cons_zero, List.set_cons_succ]
              refine go_take 2 51 _ (hkV ⟨A, AN, B, BN, ls⟩ (.slice lo ls.length lc)) rfl (by kernel_rfl) (by kernel_rfl) (by kernel_rfl) (by kernel_rfl) (fun _ _ _ h => h) (Or.inl ⟨by kernel_rfl, fun u hu => load_hk (hxx u hu) (.tmp 1) (by kernel_rfl) (by kernel_rfl)⟩) hHeld ?_
              simp only [Act.put, List.setIfInBounds_toArray, List.set_cons_zero, List.set_cons_succ]
              refine go_callE 3 52 _ rfl (by kernel_rfl) (by kernel_rfl) (by kernel_rfl) 134 (.func 134) #[.tmp 51] #[43] (by kernel_rfl) #[] (by kernel_rfl) #[hkV ⟨A, AN, B, BN, ls⟩ (.slice lo ls.length lc)] (by kernel_rfl) (enters_of Tryd.func134 (by kernel_rfl) rfl) _ (old_held hv4 hl HO hHeld) ?_
              rintro v5 w5 hu5 ⟨o5, c5, rfl⟩
              rw [hol]
              replace hHeld := hu5
              simp only [Act.put, List.setIfInBounds_toArray, List.set_cons_zero, List.set_cons_succ]
              refine go_take 4 53 _ (.int .i64 (ol : Int)) rfl (by kernel_rfl) (by kernel_rfl) (by kernel_rfl) (by kernel_rfl) (fun _ _ _ h => h) (Or.inl ⟨by kernel_rfl, fun u hu => by kernel_rfl⟩) hHeld ?_
              simp only [Act.put, List.setIfInBounds_toArray, List.set_cons_zero, List.set_cons_succ]
              refine go_take 5 54 _ (.bool (AN != (ol : Int))) rfl (by kernel_rfl) (by kernel_rfl) (by kernel_rfl) (by kernel_rfl) (fun _ _ _ h => h) (Or.inl ⟨by kernel_rfl, fun u hu => by kernel_rfl⟩) hHeld ?_
              simp only [Act.put, List.setIfInBounds_toArray, List.set_cons_zero, List.set_cons_succ]
              simp only [hne]
              refine go_take 6 55 _ (.bool false) rfl (by kernel_rfl) (by kernel_rfl) (by kernel_rfl) (by kernel_rfl) (fun _ _ _ h => h) (Or.inl ⟨by kernel_rfl, fun u hu => by kernel_rfl⟩) hHeld ?_
              simp only [Act.put, List.setIfInBounds_toArray, List.set_cons_zero, List.set_cons_succ]
              refine go_take 7 56 _ (.pointer (some ⟨w.heap.size, 3, none⟩)) rfl (by kernel_rfl) (by kernel_rfl) (by kernel_rfl) (by kernel_rfl) (fun _ _ _ h => h) (Or.inl ⟨by kernel_rfl, fun u hu => by kernel_rfl⟩) hHeld ?_
              simp only [Act.put, List.setIfInBounds_toArray, List.set_cons_zero, List.set_cons_succ]
              refine go_take 8 57 _ (.int .i64 BN) rfl (by kernel_rfl) (by kernel_rfl) (by kernel_rfl) (by kernel_rfl) (fun _ _ _ h => h) (Or.inl ⟨by kernel_rfl, fun u hu => load_int (hx4 u hu).2.2.2.1 (.tmp 56) (by kernel_rfl) (by kernel_rfl)⟩) hHeld ?_
              simp only [Act.put, List.setIfInBounds_toArray, List.set_cons_zero, List.set_cons_succ]
              refine go_take 9 58 _ (hkV ⟨A, AN, B, BN, ls⟩ (.slice lo ls.length lc)) rfl (by kernel_rfl) (by kernel_rfl) (by kernel_rfl) (by kernel_rfl) (fun _ _ _ h => h) (Or.inl ⟨by kernel_rfl, fun u hu => load_hk (hxx u hu) (.tmp 1) (by kernel_rfl) (by kernel_rfl)⟩) hHeld ?_
              simp only [Act.put, List.setIfInBounds_toArray, List.set_cons_zero, List.set_cons_succ]
              refine go_callE 10 59 _ rfl (by kernel_rfl) (by kernel_rfl) (by kernel_rfl) 135 (.func 135) #[.tmp 58] #[43] (by kernel_rfl) #[] (by kernel_rfl) #[hkV ⟨A, AN, B, BN, ls⟩ (.slice lo ls.length lc)] (by kernel_rfl) (enters_of Tryd.func135 (by kernel_rfl) rfl) _ (new_held hv4 hl HN hHeld) ?_
              rintro v6 w6 hu6 ⟨o6, c6, rfl⟩
              rw [hnl]
              replace hHeld := hu6
              simp only [Act.put, List.setIfInBounds_toArray, List.set_cons_zero, List.set_cons_succ]
              refine go_take 11 60 _ (.int .i64 (nl : Int)) rfl (by kernel_rfl) (by kernel_rfl) (by kernel_rfl) (by kernel_rfl) (fun _ _ _ h => h) (Or.inl ⟨by kernel_rfl, fun u hu => by kernel_rfl⟩) hHeld ?_
              simp only [Act.put, List.setIfInBounds_toArray, List.set_cons_zero, List.set_cons_succ]
              refine go_take 12 61 _ (.bool (BN != (nl : Int))) rfl (by kernel_rfl) (by kernel_rfl) (by kernel_rfl) (by kernel_rfl) (fun _ _ _ h => h) (Or.inl ⟨by kernel_rfl, fun u hu => by kernel_rfl⟩) hHeld ?_
              simp only [Act.put, List.setIfInBounds_toArray, List.set_cons_zero, List.set_cons_succ]
              simp only [hne2]
              refine go_take 13 62 _ (.bool true) rfl (by kernel_rfl) (by kernel_rfl) (by kernel_rfl) (by kernel_rfl) (fun _ _ _ h => h) (Or.inl ⟨by kernel_rfl, fun u hu => by kernel_rfl⟩) hHeld ?_
              simp only [Act.put, List.setIfInBounds_toArray, List.set_cons_zero, List.set_cons_succ]
              refine wpAnyH_done (by kernel_rfl) ?_ _
              refine NoPanic.normal ?_
              go_wp2_with fail
              go_meet
              case rel => exact ⟨rfl, hHeld⟩
          · have hne : (AN != (ol : Int)) = true := by simpa using z1
            obtain rfl : cb = true := by rw [← HCB.out]; simp [z1]
            clear HCB z1
            refine wp_region_noPanic ?_
            refine wp_region_held_drew (S := fun u => Low W4 u) (by kernel_rfl) hlow (fun hHeld => ?_)
            refine go_take 0 49 _ (.pointer (some ⟨w.heap.size, 1, none⟩)) rfl (by kernel_rfl) (by kernel_rfl) (by kernel_rfl) (by kernel_rfl) (fun _ _ _ h => h) (Or.inl ⟨by kernel_rfl, fun u hu => by kernel_rfl⟩) hHeld ?_
            simp only [Act.put, List.setIfInBounds_toArray, List.set_cons_zero, List.set_cons_succ]
            refine go_take 1 50 _ (.int .i64 AN) rfl (by kernel_rfl) (by kernel_rfl) (by kernel_rfl) (by kernel_rfl) (fun _ _ _ h => h) (Or.inl ⟨by kernel_rfl, fun u hu => load_int (hx4 u hu).2.1 (.tmp 49) (by kernel_rfl) (by kernel_rfl)⟩) hHeld ?_
            simp only [Act.put, List.setIfInBounds_toArray, List.set_cons_zero, List.set_cons_succ]
            refine go_take 2 51 _ (hkV ⟨A, AN, B, BN, ls⟩ (.slice lo ls.length lc)) rfl (by kernel_rfl) (by kernel_rfl) (by kernel_rfl) (by kernel_rfl) (fun _ _ _ h => h) (Or.inl ⟨by kernel_rfl, fun u hu => load_hk (hxx u hu) (.tmp 1) (by kernel_rfl) (by kernel_rfl)⟩) hHeld ?_
            simp only [Act.put, List.setIfInBounds_toArray, List.set_cons_zero, List.set_cons_succ]
            refine go_callE 3 52 _ rfl (by kernel_rfl) (by kernel_rfl) (by kernel_rfl) 134 (.func 134) #[.tmp 51] #[43] (by kernel_rfl) #[] (by kernel_rfl) #[hkV ⟨A, AN, B, BN, ls⟩ (.slice lo ls.length lc)] (by kernel_rfl) (enters_of Tryd.func134 (by kernel_rfl) rfl) _ (old_held hv4 hl HO hHeld) ?_
            rintro v5 w5 hu5 ⟨o5, c5, rfl⟩
            rw [hol]
            replace hHeld := hu5
            simp only [Act.put, List.setIfInBounds_toArray, List.set_cons_zero, List.set_cons_succ]
            refine go_take 4 53 _ (.int .i64 (ol : Int)) rfl (by kernel_rfl) (by kernel_rfl) (by kernel_rfl) (by kernel_rfl) (fun _ _ _ h => h) (Or.inl ⟨by kernel_rfl, fun u hu => by kernel_rfl⟩) hHeld ?_
            simp only [Act.put, List.setIfInBounds_toArray, List.set_cons_zero, List.set_cons_succ]
            refine go_take 5 54 _ (.bool (AN != (ol : Int))) rfl (by kernel_rfl) (by kernel_rfl) (by kernel_rfl) (by kernel_rfl) (fun _ _ _ h => h) (Or.inl ⟨by kernel_rfl, fun u hu => by kernel_rfl⟩) hHeld ?_
            simp only [Act.put, List.setIfInBounds_toArray, List.set_cons_zero, List.set_cons_succ]
            simp only [hne]
            refine go_take 6 55 _ (.bool true) rfl (by kernel_rfl) (by kernel_rfl) (by kernel_rfl) (by kernel_rfl) (fun _ _ _ h => h) (Or.inl ⟨by kernel_rfl, fun u hu => by kernel_rfl⟩) hHeld ?_
            simp only [Act.put, List.setIfInBounds_toArray, List.set_cons_zero, List.set_cons_succ]
            refine go_take 7 56 _ undef rfl (by kernel_rfl) (by kernel_rfl) (by kernel_rfl) (by kernel_rfl) (fun _ _ _ h => h) (Or.inr ⟨by kernel_rfl, rfl⟩) hHeld ?_
            simp only [Act.put, List.setIfInBounds_toArray, List.set_cons_zero, List.set_cons_succ]
            refine go_take 8 57 _ undef rfl (by kernel_rfl) (by kernel_rfl) (by kernel_rfl) (by kernel_rfl) (fun _ _ _ h => h) (Or.inr ⟨by kernel_rfl, rfl⟩) hHeld ?_
            simp only [Act.put, List.setIfInBounds_toArray, List.set_cons_zero, List.set_cons_succ]
            refine go_take 9 58 _ undef rfl (by kernel_rfl) (by kernel_rfl) (by kernel_rfl) (by kernel_rfl) (fun _ _ _ h => h) (Or.inr ⟨by kernel_rfl, rfl⟩) hHeld ?_
            simp only [Act.put, List.setIfInBounds_toArray, List.set_cons_zero, List.set_cons_succ]
            refine go_none 10 59 _ rfl (by kernel_rfl) (by kernel_rfl) (by kernel_rfl) hHeld ?_
            simp only [Act.put, List.setIfInBounds_toArray, List.set_cons_zero, List.set_cons_succ]
            refine go_take 11 60 _ undef rfl (by kernel_rfl) (by kernel_rfl) (by kernel_rfl) (by kernel_rfl) (fun _ _ _ h => h) (Or.inr ⟨by kernel_rfl, rfl⟩) hHeld ?_
            simp only [Act.put, List.setIfInBounds_toArray, List.set_cons_zero, List.set_cons_succ]
            refine go_take 12 61 _ undef rfl (by kernel_rfl) (by kernel_rfl) (by kernel_rfl) (by kernel_rfl) (fun _ _ _ h => h) (Or.inr ⟨by kernel_rfl, rfl⟩) hHeld ?_
            simp only [Act.put, List.setIfInBounds_toArray, List.set_cons_zero, List.set_cons_succ]
            refine go_take 13 62 _ (.bool true) rfl (by kernel_rfl) (by kernel_rfl) (by kernel_rfl) (by kernel_rfl) (fun _ _ _ h => h) (Or.inl ⟨by kernel_rfl, fun u hu => by kernel_rfl⟩) hHeld ?_
            simp only [Act.put, List.setIfInBounds_toArray, List.set_cons_zero, List.set_cons_succ]
            refine wpAnyH_done (by kernel_rfl) ?_ _
            refine NoPanic.normal ?_
            go_wp2_with fail
            go_meet
            case rel => exact ⟨rfl, hHeld⟩
        case rest =>
          obtain ⟨rfl, hlow⟩ := hcut
          obtain ⟨x0, x1, x2, x3, x4⟩ := hx4 _ hlow
          have hv5 := HMk.keep hv4 hlow (Nat.le_refl _)
          have hBf := hB04.trans (hlow.mono hB04.size)
          have HAB := HCB
          cases cb with
          | true =>
            have HE2 : Hid (r = 120) := (by
              show _ = _
              rw [← HE.out, if_pos (of_decide_eq_true HCB.out)])
            clear HE HCB HAB
            go_wp2
            go_ret
            exact ⟨ret_int HE2.out.symm, hBf⟩
          | false =>
            have HE2 : Hid ((if ls.all (fun m => decide (m.sg = 32)) = true then (50 : Int) else 0) = r) := (by
              show _ = _
              rw [← HE.out, if_neg (of_decide_eq_false HCB.out)])
            clear HE HCB HAB hx4 hxx
            go_wp2
            generalize hwc : wc = W5 at *
            clear hwc
            go_loopw [3] (fun iv wr => ∃ (k : Nat), k ≤ ls.length ∧ iv = .int .i64 (k : Int) ∧ wr = W5 ∧ Hid ((if (ls.drop k).all (fun m => decide (m.sg = 32)) = true then (50 : Int) else 0) = r)) (fun iv _ => ls.length - (intOf iv).toNat)
            case atStart => exact ⟨0, Nat.zero_le _, by go_num, rfl, HE2⟩
            case round =>
              obtain ⟨k, hk, rfl, rfl, HI⟩ := hrel
              by_cases hlt : k < ls.length
              · obtain ⟨b, off, rfl, hb, hc⟩ := HMk.at hv5 (by omega)
                obtain ⟨c0, c1⟩ := hc k hlt
                obtain ⟨m, hm⟩ : ∃ m, ls[k] = m := ⟨_, rfl⟩
                rw [hm] at c0 c1
                have HI2 : Hid ((if (decide (m.sg = 32) && (ls.drop (k + 1)).all (fun m => decide (m.sg = 32))) = true then (50 : Int) else 0) = r) := (by
                  show _ = _
                  rw [← HI.out, List.drop_eq_getElem_cons hlt, hm]
                  rfl)
                obtain ⟨s, tx⟩ := m
                dsimp only at c0 c1 HI2
                clear HI hm hc c1
                have i1 : 0 ≤ (k : Int) := by omega
                have i2 : (k : Int) < (ls.length : Int) := by omega
                by_cases h0 : s = 32
                · subst h0
                  have HI3 : Hid ((if (ls.drop (k + 1)).all (fun m => decide (m.sg = 32)) = true then (50 : Int) else 0) = r) := (by
                    show _ = _
                    rw [← HI2.out]
                    rfl)
                  clear HI2 HE2
                  go_wp2
                  exact ⟨⟨k + 1, by omega, by go_num, trivial, HI3⟩, by simp [intOf]; omega⟩
                · have e0 : (s != 32) = true := by simpa using h0
                  have HI3 : Hid (r = 0) := (by
                    show _ = _
                    rw [← HI2.out]
                    simp [h0])
                  clear HI2 HE2
                  go_wp2
                  go_ret
                  exact ⟨ret_int HI3.out.symm, hBf⟩
              · have HI3 : Hid (r = 50) := (by
                  show _ = _
                  rw [← HI.out, List.drop_of_length_le (by omega)]
                  rfl)
                have hend : decide ((k : Int) < (ls.length : Int)) = false := decide_eq_false (by omega)
                clear HI HE2
                go_wp2
                go_ret
                exact ⟨ret_int HI3.out.symm, hBf⟩
end Go.Proofs.YtgiojkhmkeocfaaDoor

/- The reference's Order of layer 11, walked. -/
namespace Go.Proofs.YtgiojkhmkeocfaaDoor
open Go.RowKit

/-- hunks of lengths that can be gone through -/
def HOk (p : List (Hk × Value)) : Prop := p.length ≤ 1099511627776 ∧ ∀ x ∈ p, x.1.ls.length ≤ 1099511627776 ∧ ∀ m ∈ x.1.ls, m.tx.length ≤ 1099511627776
/-- a hunk of a row, read -/
theorem HHp.take {w W : World} {b off n c : Nat} {p : List (Hk × Value)} (h : HHp w (.slice (some ⟨b, off, none⟩) n c) p) (hB : Below w.heap.size w W) (k : Nat) (hk : k < p.length) {x : Hk} {y : Value} (hx : p[k] = (x, y)) : (W.cell? ⟨b, off + k * 5, none⟩ = some (.int .i64 x.A) ∧ W.cell? ⟨b, off + k * 5 + 1, none⟩ = some (.int .i64 x.AN) ∧ W.cell? ⟨b, off + k * 5 + 2, none⟩ = some (.int .i64 x.B) ∧ W.cell? ⟨b, off + k * 5 + 3, none⟩ = some (.int .i64 x.BN) ∧ W.cell? ⟨b, off + k * 5 + 4, none⟩ = some y) ∧ HMk W y x.ls := by
  have h2 := h.keep hB (Nat.le_refl _)
  obtain ⟨b', off', e, _, hc⟩ := h2.at (by omega)
  cases e
  have := hc k hk
  rw [hx] at this
  refine ⟨this, ?_⟩
  have hi := h2.ins p[k] (List.getElem_mem hk)
  rw [hx] at hi
  exact hi
theorem errs_drop {l : List Hk} {k : Nat} (hk : k < l.length) : errs (l.drop k) = if chkH l[k] ≠ 0 then chkH l[k] else errs (l.drop (k + 1)) := by
  rw [List.drop_eq_getElem_cons hk]
  rfl
theorem ord_ok {l : List Hk} (h : errs l = 0) : ordH l = if ordB 0 0 l = true then 0 else 121 := by
  unfold ordH
  rw [h]
  simp
theorem ord_err {l : List Hk} {z : Int} (h : errs l = z) (hz : z ≠ 0) : ordH l = z := by
  unfold ordH
  rw [h, if_pos hz]
theorem errs_ok {l : List Hk} (h : errs l = 0) : ∀ x ∈ l, chkH x = 0 := by
  induction l with
  | nil => intro x hx; cases hx
  | cons y l ih =>
    simp only [errs] at h
    by_cases hy : chkH y ≠ 0
    · rw [if_pos hy] at h
      exact absurd h hy
    · rw [if_neg hy] at h
      intro x hx
      rcases List.mem_cons.1 hx with rfl | hx
      · simpa using hy
      · exact ih h x hx
/-- the numbers of a right hunk -/
theorem chk_num {h : Hk} (hc : chkH h = 0) : (0 ≤ h.A ∧ h.A ≤ 2147483647) ∧ (0 ≤ h.AN ∧ h.AN ≤ 2147483647) ∧ (0 ≤ h.B ∧ h.B ≤ 2147483647) ∧ (0 ≤ h.BN ∧ h.BN ≤ 2147483647) := by
  have hr : rngB h = true := by
    cases hq : rngB h with
    | true => rfl
    | false => simp [chkH, hq] at hc
  simp only [rngB, Bool.and_eq_true, nat31, decide_eq_true_eq] at hr
  omega
theorem at_num {h : Hk} (hc : chkH h = 0) : (-1 ≤ atA h ∧ atA h ≤ 2147483647) ∧ (-1 ≤ atB h ∧ atB h ≤ 2147483647) := by
  have := chk_num hc
  unfold atA atB
  split <;> split <;> omega

end Go.Proofs.YtgiojkhmkeocfaaDoor

/- The reference's Same, SameHunks of layer 11, walked: hunks that are the same. -/
namespace Go.Proofs.YtgiojkhmkeocfaaDoor
open Go.RowKit

set_option maxHeartbeats 4000000 in
theorem rSame_f (h : Hk) (v1 v2 : Value) (w : World) (hv1 : HMk w v1 h.ls) (hv2 : HMk w v2 h.ls) (hl : h.ls.length ≤ 1099511627776) : Calls Tryd.prog 44 #[hkV h v1, hkV h v2] w fun e w' => e = .returned (.bool true) ∧ Below w.heap.size w w' := by
  obtain ⟨A, AN, B, BN, ls⟩ := h
  dsimp only at hv1 hv2 hl
  obtain ⟨o1, c1, rfl⟩ := HMk.form hv1
  obtain ⟨o2, c2, rfl⟩ := HMk.form hv2
  have hx1 := Hx.new w ⟨A, AN, B, BN, ls⟩ (.slice o1 ls.length c1)
  have hB1 : Below w.heap.size w (w.alloc (hkO ⟨A, AN, B, BN, ls⟩ (.slice o1 ls.length c1))) := (Below.refl _ w).alloc (Nat.le_refl _) _
  have hx2 : Hx ((w.alloc (hkO ⟨A, AN, B, BN, ls⟩ (.slice o1 ls.length c1))).alloc (hkO ⟨A, AN, B, BN, ls⟩ (.slice o2 ls.length c2))) (w.heap.size + 1) ⟨A, AN, B, BN, ls⟩ (.slice o2 ls.length c2) := alloc_second w _ _
  have hB2 : Below w.heap.size w ((w.alloc (hkO ⟨A, AN, B, BN, ls⟩ (.slice o1 ls.length c1))).alloc (hkO ⟨A, AN, B, BN, ls⟩ (.slice o2 ls.length c2))) := hB1.alloc (by simp) _
  have hx1' := hx1.low ((Below.refl _ (w.alloc (hkO ⟨A, AN, B, BN, ls⟩ (.slice o1 ls.length c1)))).alloc (Nat.le_refl _) (hkO ⟨A, AN, B, BN, ls⟩ (.slice o2 ls.length c2)))
  have hm1 := HMk.keep hv1 hB2 (Nat.le_refl _)
  have hm2 := HMk.keep hv2 hB2 (Nat.le_refl _)
  obtain ⟨x0, x1, x2, x3, x4⟩ := hx1'.cells
  obtain ⟨y0, y1, y2, y3, y4⟩ := hx2.cells
  unfold hkV
  dsimp only at x0 x1 x2 x3 x4 y0 y1 y2 y3 y4 ⊢
  have hW0 : (w.alloc (hkO ⟨A, AN, B, BN, ls⟩ (.slice o1 ls.length c1))).alloc (hkO ⟨A, AN, B, BN, ls⟩ (.slice o2 ls.length c2)) = (w.alloc (Obj.cells #[Value.int IntKind.i64 A, Value.int IntKind.i64 AN, Value.int IntKind.i64 B, Value.int IntKind.i64 BN, .slice o1 ls.length c1] 43)).alloc (Obj.cells #[Value.int IntKind.i64 A, Value.int IntKind.i64 AN, Value.int IntKind.i64 B, Value.int IntKind.i64 BN, .slice o2 ls.length c2] 43) := rfl
  clear hx1 hx2 hx1' hB1 hv1 hv2
  generalize (w.alloc (hkO ⟨A, AN, B, BN, ls⟩ (.slice o1 ls.length c1))).alloc (hkO ⟨A, AN, B, BN, ls⟩ (.slice o2 ls.length c2)) = W at *
  have hW := hW0.symm
  clear hW0
  go_enter Tryd.func44, Tryd.ntmps44
  go_wp2
  clear hW
  go_loopw [5] (fun iv wr => ∃ k m : Nat, k ≤ ls.length ∧ iv = .int .i64 (k : Int) ∧ wr = W.drewN m) (fun iv _ => ls.length - (intOf iv).toNat)
  case atStart => exact ⟨0, 0, Nat.zero_le _, by go_num, rfl⟩
  case round =>
    obtain ⟨k, m, hk, rfl, rfl⟩ := hrel
    have x4' : (W.drewN m).cell? ⟨w.heap.size, 4, none⟩ = some (.slice o1 ls.length c1) := x4
    have y4' : (W.drewN m).cell? ⟨w.heap.size + 1, 4, none⟩ = some (.slice o2 ls.length c2) := y4
    by_cases hlt : k < ls.length
    · obtain ⟨b1, f1, rfl, _, hc1⟩ := HMk.at hm1 (by omega)
      obtain ⟨b2, f2, rfl, _, hc2⟩ := HMk.at hm2 (by omega)
      obtain ⟨s0, s1⟩ := hc1 k hlt
      obtain ⟨t0, t1⟩ := hc2 k hlt
      obtain ⟨q, hq⟩ : ∃ q, ls[k] = q := ⟨_, rfl⟩
      rw [hq] at s0 s1 t0 t1
      obtain ⟨sg, tx⟩ := q
      dsimp only at s0 s1 t0 t1
      clear hc1 hc2 hq
      have i1 : 0 ≤ (k : Int) := by omega
      have i2 : (k : Int) < (ls.length : Int) := by omega
      go_wp2_with fail
      go_quiet (fail)
      go_wp2
      go_roundw
      case rel => exact ⟨k + 1, _, by omega, by go_num, rfl⟩
      case measure => simp [intOf]; omega
    · have hend : decide ((k : Int) < (ls.length : Int)) = false := decide_eq_false (by omega)
      go_wp2
      go_ret
      exact ⟨rfl, Below.dN hB2 _⟩
end Go.Proofs.YtgiojkhmkeocfaaDoor

/- The reference's SameHunks of layer 11, walked: rows of hunks that are the same; steps by hand. -/
namespace Go.Proofs.YtgiojkhmkeocfaaDoor
open Go.RowKit

theorem exec_ixH {u : World} {b off n c i : Nat} (hi : i < n) {op : Oper} (x y : Operand) (ho : op.op = .indexAddr 29 x y) {ev : Operand → Value} (hx : ev x = .slice (some ⟨b, off, none⟩) n c) (hy : ev y = .int .i64 (i : Int)) :
    (execOp ev op).run Tryd.prog u = .ok (.value (.pointer (some ⟨b, off + i * 5, none⟩))) u := by
  have i1 : 0 ≤ (i : Int) := by omega
  have i2 : (i : Int) < (n : Int) := by omega
  simp only [execOp, ho, hx, hy]
  go_simp
/-- the cells of a hunk in a row -/
def HkAt (u : World) (b o : Nat) (x : Hk) (y : Value) : Prop := u.cell? ⟨b, o, none⟩ = some (.int .i64 x.A) ∧ u.cell? ⟨b, o + 1, none⟩ = some (.int .i64 x.AN) ∧ u.cell? ⟨b, o + 2, none⟩ = some (.int .i64 x.B) ∧ u.cell? ⟨b, o + 3, none⟩ = some (.int .i64 x.BN) ∧ u.cell? ⟨b, o + 4, none⟩ = some y
theorem HkAt.low {u u' : World} {b o : Nat} {x : Hk} {y : Value} (h : HkAt u b o x y) (hB : Low u u') : HkAt u' b o x y := by
  have key : ∀ (q : Addr) (z : Value), u.cell? q = some z → u'.cell? q = some z := fun q z hz => (World.cell?_of_block (w := u) (Below.block hB _ (World.block_lt_of_cell? _ _ hz))).trans hz
  exact ⟨key _ _ h.1, key _ _ h.2.1, key _ _ h.2.2.1, key _ _ h.2.2.2.1, key _ _ h.2.2.2.2⟩
theorem load_hkR {u : World} {b o : Nat} {h : Hk} {yo : Option Addr} {n yc : Nat} (q : HkAt u b o h (.slice yo n yc)) {op : Oper} (x : Operand) (ho : op.op = .load 43 x) {ev : Operand → Value} (hx : ev x = .pointer (some ⟨b, o, none⟩)) :
    (execOp ev op).run Tryd.prog u = .ok (.value (hkV h (.slice yo n yc))) u := by
  obtain ⟨d0, d1, d2, d3, d4⟩ := q
  unfold hkV
  simp only [execOp, ho, hx]
  go_simp
theorem hsame_held {h : Hk} {v1 v2 : Value} {W u : World} (hv1 : HMk W v1 h.ls) (hv2 : HMk W v2 h.ls) (hl : h.ls.length ≤ 1099511627776) (hL : Low W u) : Calls Tryd.prog 44 (#[hkV h v1, hkV h v2] ++ #[]) u fun e w' => ∃ x, e = .returned x ∧ Low W w' ∧ x = .bool true := by
  refine (rSame_f h v1 v2 u (HMk.keep hv1 hL (Nat.le_refl _)) (HMk.keep hv2 hL (Nat.le_refl _)) hl).mono ?_
  rintro e w' ⟨rfl, hB⟩
  exact ⟨_, rfl, hL.trans (hB.mono hL.size), rfl⟩

set_option maxRecDepth 10000 in
set_option maxHeartbeats 4000000 in
theorem rSameHunks_f (p1 p2 : List (Hk × Value)) (v1 v2 : Value) (w : World) (hv1 : HHp w v1 p1) (hv2 : HHp w v2 p2) (he : p1.map (·.1) = p2.map (·.1)) (hok : HOk p1) : Calls Tryd.prog 14 #[v1, v2] w fun e w' => e = .returned (.bool true) ∧ Below w.heap.size w w' := by
  obtain ⟨o1, c1, rfl⟩ := Holds.form hv1.row
  obtain ⟨o2, c2, rfl⟩ := Holds.form hv2.row
  have hl12 : p2.length = p1.length := by have := congrArg List.length he; simpa using this.symm
  have HE : Hid (p1.map (·.1) = p2.map (·.1)) := he
  have hpl : p1.length ≤ 1099511627776 := hok.1
  have HOK : Hid (HOk p1) := hok
  have HL : Hid (p2.length = p1.length) := hl12
  rw [hl12] at hv2 ⊢
  clear he hok hl12
  go_enter Tryd.func14, Tryd.ntmps14
  go_wp2
  go_loopw [5] (fun iv wr => ∃ k : Nat, k ≤ p1.length ∧ iv = .int .i64 (k : Int) ∧ Below w.heap.size w wr) (fun iv _ => p1.length - (intOf iv).toNat)
  case atStart => exact ⟨0, Nat.zero_le _, by go_num, Below.refl _ _⟩
  case round =>
    obtain ⟨k, hk, rfl, hB⟩ := hrel
    by_cases hlt : k < p1.length
    · obtain ⟨b1, f1, rfl, _, _⟩ := hv1.at (by omega)
      obtain ⟨b2, f2, rfl, _, _⟩ := hv2.at (by have := HL.out; omega)
      obtain ⟨x, y, hxy⟩ : ∃ x y, p1[k] = (x, y) := ⟨_, _, rfl⟩
      obtain ⟨x', z, hxz⟩ : ∃ x z, p2[k]'(by have := HL.out; omega) = (x, z) := ⟨_, _, rfl⟩
      obtain rfl : x' = x := by
        have h1 : (p1.map (·.1))[k]? = some x := by simp [hlt, hxy]
        have h2 : (p2.map (·.1))[k]? = some x' := by simp [List.getElem?_eq_getElem (show k < p2.length by have := HL.out; omega), hxz]
        rw [HE.out, h2] at h1
        simpa using h1
      obtain ⟨r1, hm1⟩ := hv1.take hB k hlt hxy
      obtain ⟨r2, hm2⟩ := hv2.take hB k (by have := HL.out; omega) hxz
      have hbd := (HOK.out.2 _ (List.getElem_mem hlt)).1
      rw [hxy] at hbd
      dsimp only at hbd
      obtain ⟨yo, yc, rfl⟩ := hm1.form
      obtain ⟨zo, zc, rfl⟩ := hm2.form
      have hr1 : ∀ u : World, Low wr u → HkAt u b1 (f1 + k * 5) x' (.slice yo x'.ls.length yc) := fun u hu => HkAt.low r1 hu
      have hr2 : ∀ u : World, Low wr u → HkAt u b2 (f2 + k * 5) x' (.slice zo x'.ls.length zc) := fun u hu => HkAt.low r2 hu
      have i1 : 0 ≤ (k : Int) := by omega
      have i2 : (k : Int) < (p1.length : Int) := by omega
      clear hxy hxz r1 r2
      go_wp2_with fail
      refine wp_region_noPanic ?_
      refine wp_region_held_drew (S := fun u => Low wr u) (by kernel_rfl) (Below.dN (Below.refl _ wr) 1) (fun hHeld => ?_)
      refine go_take 0 17 _ (.slice (some ⟨b1, f1, none⟩) p1.length c1) rfl (by kernel_rfl) (by kernel_rfl) (by kernel_rfl) (by kernel_rfl) (fun _ _ _ h => h) (Or.inl ⟨by kernel_rfl, fun u hu => by kernel_rfl⟩) hHeld ?_
      simp only [Act.put, List.setIfInBounds_toArray, List.set_cons_zero, List.set_cons_succ]
      refine go_take 1 18 _ (.int .i64 (k : Int)) rfl (by kernel_rfl) (by kernel_rfl) (by kernel_rfl) (by kernel_rfl) (fun _ _ _ h => h) (Or.inl ⟨by kernel_rfl, fun u hu => by kernel_rfl⟩) hHeld ?_
      simp only [Act.put, List.setIfInBounds_toArray, List.set_cons_zero, List.set_cons_succ]
      refine go_take 2 19 _ (.pointer (some ⟨b1, f1 + k * 5, none⟩)) rfl (by kernel_rfl) (by kernel_rfl) (by kernel_rfl) (by kernel_rfl) (fun _ _ _ h => h) (Or.inl ⟨by kernel_rfl, fun u hu => exec_ixH (c := c1) hlt (.tmp 17) (.tmp 18) (by kernel_rfl) (by kernel_rfl) (by kernel_rfl)⟩) hHeld ?_
      simp only [Act.put, List.setIfInBounds_toArray, List.set_cons_zero, List.set_cons_succ]
      refine go_take 3 20 _ (hkV x' (.slice yo x'.ls.length yc)) rfl (by kernel_rfl) (by kernel_rfl) (by kernel_rfl) (by kernel_rfl) (fun _ _ _ h => h) (Or.inl ⟨by kernel_rfl, fun u hu => load_hkR (hr1 u hu) (.tmp 19) (by kernel_rfl) (by kernel_rfl)⟩) hHeld ?_
      simp only [Act.put, List.setIfInBounds_toArray, List.set_cons_zero, List.set_cons_succ]
      refine go_take 4 21 _ (.slice (some ⟨b2, f2, none⟩) p1.length c2) rfl (by kernel_rfl) (by kernel_rfl) (by kernel_rfl) (by kernel_rfl) (fun _ _ _ h => h) (Or.inl ⟨by kernel_rfl, fun u hu => by kernel_rfl⟩) hHeld ?_
      simp only [Act.put, List.setIfInBounds_toArray, List.set_cons_zero, List.set_cons_succ]
      refine go_take 5 22 _ (.int .i64 (k : Int)) rfl (by kernel_rfl) (by kernel_rfl) (by kernel_rfl) (by kernel_rfl) (fun _ _ _ h => h) (Or.inl ⟨by kernel_rfl, fun u hu => by kernel_rfl⟩) hHeld ?_
      simp only [Act.put, List.setIfInBounds_toArray, List.set_cons_zero, List.set_cons_succ]
      refine go_take 6 23 _ (.pointer (some ⟨b2, f2 + k * 5, none⟩)) rfl (by kernel_rfl) (by kernel_rfl) (by kernel_rfl) (by kernel_rfl) (fun _ _ _ h => h) (Or.inl ⟨by kernel_rfl, fun u hu => exec_ixH (c := c2) hlt (.tmp 21) (.tmp 22) (by kernel_rfl) (by kernel_rfl) (by kernel_rfl)⟩) hHeld ?_
      simp only [Act.put, List.setIfInBounds_toArray, List.set_cons_zero, List.set_cons_succ]
      refine go_take 7 24 _ (hkV x' (.slice zo x'.ls.length zc)) rfl (by kernel_rfl) (by kernel_rfl) (by kernel_rfl) (by kernel_rfl) (fun _ _ _ h => h) (Or.inl ⟨by kernel_rfl, fun u hu => load_hkR (hr2 u hu) (.tmp 23) (by kernel_rfl) (by kernel_rfl)⟩) hHeld ?_
      simp only [Act.put, List.setIfInBounds_toArray, List.set_cons_zero, List.set_cons_succ]
      refine go_callE 8 25 _ rfl (by kernel_rfl) (by kernel_rfl) (by kernel_rfl) 44 (.func 44) #[.tmp 20, .tmp 24] #[43, 43] (by kernel_rfl) #[] (by kernel_rfl) #[hkV x' (.slice yo x'.ls.length yc), hkV x' (.slice zo x'.ls.length zc)] (by kernel_rfl) (enters_of Tryd.func44 (by kernel_rfl) rfl) _ (hsame_held hm1 hm2 hbd hHeld) ?_
      rintro _ u8 hHeld rfl
      simp only [Act.put, List.setIfInBounds_toArray, List.set_cons_zero, List.set_cons_succ]
      refine go_take 9 26 _ (.bool false) rfl (by kernel_rfl) (by kernel_rfl) (by kernel_rfl) (by kernel_rfl) (fun _ _ _ h => h) (Or.inl ⟨by kernel_rfl, fun u hu => by kernel_rfl⟩) hHeld ?_
      simp only [Act.put, List.setIfInBounds_toArray, List.set_cons_zero, List.set_cons_succ]
      refine wpAnyH_done (by kernel_rfl) ?_ _
      refine NoPanic.normal ?_
      have hB2 := hB.trans (Below.mono hHeld hB.size)
      go_wp2
      exact ⟨⟨k + 1, by omega, by go_num, hB2⟩, by simp [intOf]; omega⟩
    · have hend : decide ((k : Int) < (p1.length : Int)) = false := decide_eq_false (by omega)
      go_wp2
      go_ret
      exact ⟨rfl, hB⟩
end Go.Proofs.YtgiojkhmkeocfaaDoor

/- Hunks of one's own: a row of them, each with a row of lines of one's own; the reference's Copy, walked. -/
namespace Go.Proofs.YtgiojkhmkeocfaaDoor
open Go.RowKit

theorem own_lt {u : World} {base : Nat} {e : TypeId} {s : Nat} {v : Value} {n : Nat} {xs : List Value} (h : u.ownsRow base e s v n xs) {g : Nat} (hg : v.ownBlock = some g) : g < u.heap.size := by
  rcases h.2 with ⟨rfl, _⟩ | ⟨b, cap, cur, rfl, _, hb, _⟩
  · cases hg
  · simp [Value.ownBlock] at hg
    subst hg
    exact (Array.getElem?_eq_some_iff.1 hb).1
theorem own_ne {u : World} {base base' : Nat} {e e' : TypeId} {s s' : Nat} {v v' : Value} {n n' : Nat} {xs xs' : List Value} (h : u.ownsRow base e s v n xs) (h' : u.ownsRow base' e' s' v' n' xs') (he : e ≠ e') {g : Nat} (hg : v.ownBlock = some g) : v'.ownBlock ≠ some g := by
  intro hg'
  rcases h.2 with ⟨rfl, _⟩ | ⟨b, cap, cur, rfl, _, hb, _⟩
  · cases hg
  · rcases h'.2 with ⟨rfl, _⟩ | ⟨b', cap', cur', rfl, _, hb', _⟩
    · cases hg'
    · simp [Value.ownBlock] at hg hg'
      subst hg hg'
      rw [hb] at hb'
      simp at hb'
      exact he hb'.2
/-- a row of hunks of one's own -/
structure Hs (w : World) (ov : Value) (P : List (Hk × Value)) (u : World) : Prop where
  low : Below w.heap.size w u
  own : u.ownsRow w.heap.size 43 5 ov P.length (hkcells P)
  ins : ∀ x ∈ P, u.ownsRow w.heap.size 91 2 x.2 x.1.ls.length (mkcells x.1.ls)
theorem Hs.nil (w : World) : Hs w (.slice none 0 0) [] w := ⟨Below.refl _ _, hnil_row _ _ _ _, fun _ h => by cases h⟩
theorem Hs.alloc {w : World} {ov : Value} {P : List (Hk × Value)} {u : World} (h : Hs w ov P u) (o : Obj) : Hs w ov P (u.alloc o) := ⟨h.low.alloc h.low.size o, h.own.alloc o, fun x hx => (h.ins x hx).alloc o⟩
theorem Hs.drewN {w : World} {ov : Value} {P : List (Hk × Value)} {u : World} (h : Hs w ov P u) (n : Nat) : Hs w ov P (u.drewN n) := ⟨Below.dN h.low n, h.own, h.ins⟩
/-- what is written lies in a block that is none of theirs -/
theorem Hs.grown {w : World} {ov : Value} {P : List (Hk × Value)} {u u' : World} (h : Hs w ov P u) {g : Option Nat} (hg : u.grownBy u' g) (hb : ∀ k, g = some k → w.heap.size ≤ k) (h1 : ∀ k, g = some k → ov.ownBlock ≠ some k) (h2 : ∀ x ∈ P, ∀ k, g = some k → x.2.ownBlock ≠ some k) : Hs w ov P u' := by
  have key : ∀ {e : TypeId} {s : Nat} {v : Value} {n : Nat} {xs : List Value}, u.ownsRow w.heap.size e s v n xs → (∀ k, g = some k → v.ownBlock ≠ some k) → u'.ownsRow w.heap.size e s v n xs := by
    intro e s v n xs ho hne
    refine ⟨ho.1, ?_⟩
    rcases ho.2 with q | ⟨b, cap, cur, rfl, q2, q3, q4⟩
    · exact .inl q
    · refine .inr ⟨b, cap, cur, rfl, q2, ?_, q4⟩
      rw [hg.block b (Array.getElem?_eq_some_iff.1 q3).1 (fun e => hne b e.symm rfl)]
      exact q3
  exact ⟨h.low.grown hg h.low.size (fun k hk => hb k hk), key h.own h1, fun x hx => key (h.ins x hx) (h2 x hx)⟩
theorem Hs.lt {w : World} {ov : Value} {P : List (Hk × Value)} {u : World} (h : Hs w ov P u) : (∀ k, ov.ownBlock = some k → k < u.heap.size) ∧ ∀ x ∈ P, ∀ k, x.2.ownBlock = some k → k < u.heap.size := ⟨fun _ hk => own_lt h.own hk, fun x hx _ hk => own_lt (h.ins x hx) hk⟩
/-- one that is new, a box or a row, is none of theirs -/
theorem Hs.fresh {w : World} {ov : Value} {P : List (Hk × Value)} {u u1 u' : World} (h : Hs w ov P u) (h1 : Hs w ov P u1) {k : Nat} (hk : u.heap.size ≤ k) (hg : u1.grownBy u' (some k)) : Hs w ov P u' := by
  have hl := h.lt
  have hs := h.low.size
  refine h1.grown hg (fun j hj => by cases hj; omega) (fun j hj => by cases hj; intro e; have := hl.1 _ e; omega) (fun x hx j hj => by cases hj; intro e; have := hl.2 x hx _ e; omega)
/-- what it holds -/
theorem Hs.holds {w : World} {ov : Value} {P : List (Hk × Value)} {u : World} (h : Hs w ov P u) : HHp u ov P := ⟨holds_of h.own, fun x hx => holds_of (h.ins x hx)⟩
/-- a hunk more -/
theorem Hs.more {w : World} {ov : Value} {P : List (Hk × Value)} {u u' : World} (h : Hs w ov P u) {x : Hk} {y ov' : Value} (hy : u.ownsRow w.heap.size 91 2 y x.ls.length (mkcells x.ls)) (hg : u.grownBy u' ov.ownBlock) (ho : u'.ownsRow w.heap.size 43 5 ov' (P.length + 1) (hkcells P ++ hkC x y)) : Hs w ov' (P ++ [(x, y)]) u' := by
  have key : ∀ {v : Value} {n : Nat} {xs : List Value}, u.ownsRow w.heap.size 91 2 v n xs → u'.ownsRow w.heap.size 91 2 v n xs := by
    intro v n xs hv
    refine ⟨hv.1, ?_⟩
    rcases hv.2 with q | ⟨b, cap, cur, rfl, q2, q3, q4⟩
    · exact .inl q
    · refine .inr ⟨b, cap, cur, rfl, q2, ?_, q4⟩
      rw [hg.block b (Array.getElem?_eq_some_iff.1 q3).1 (fun e => own_ne h.own hv (by decide) e.symm rfl)]
      exact q3
  refine ⟨h.low.grown hg h.low.size (fun j hj => owns_ge h.own hj), ?_, fun z hz => ?_⟩
  · rw [hkcells_append, List.length_append]
    have e : hkcells [(x, y)] = hkC x y := by simp [hkcells]
    rw [e]
    exact ho
  · rcases List.mem_append.1 hz with hz | hz
    · exact key (h.ins z hz)
    · rw [List.mem_singleton.1 hz]
      exact key hy
/-- one hunk, as a new row of one -/
theorem one_row (w : World) (x : Hk) (y : Value) : Holds (w.alloc (hkO x y)) (.slice (some ⟨w.heap.size, 0, none⟩) 1 1) 1 (hkC x y) := new_holds w #[.int .i64 x.A, .int .i64 x.AN, .int .i64 x.B, .int .i64 x.BN, y] 43 1 1 (by decide)
theorem hkC_one (x : Hk) {o : Option Addr} {n c : Nat} : ∀ u ∈ hkC x (.slice o n c), u.oneCell' = true := by
  intro u hu
  simp only [hkC, List.mem_cons, List.not_mem_nil, or_false] at hu
  rcases hu with rfl | rfl | rfl | rfl | rfl <;> rfl
theorem Hx.setl {u : World} {b : Nat} {h : Hk} {v : Value} (q : Hx u b h v) (z : Value) : Hx (u.setCell ⟨b, 4, none⟩ z) b h z := heap_setCell_same u b 4 _ _ z q

set_option maxRecDepth 10000 in
set_option maxHeartbeats 4000000 in
theorem rCopy_f (p : List (Hk × Value)) (v : Value) (w : World) (hv : HHp w v p) (hok : HOk p) : Calls Tryd.prog 50 #[v] w fun e w' => ∃ v' P, e = .returned v' ∧ Hs w v' P w' ∧ P.map (·.1) = p.map (·.1) := by
  obtain ⟨vo, vc, rfl⟩ := Holds.form hv.row
  have hpl : p.length ≤ 1099511627776 := hok.1
  have HOK : Hid (HOk p) := hok
  clear hok
  go_enter Tryd.func50, Tryd.ntmps50
  go_wp2
  go_loopw [3, 4] (fun ov iv wr => ∃ (k : Nat) (P : List (Hk × Value)), k ≤ p.length ∧ iv = .int .i64 (k : Int) ∧ (∃ oo oc, ov = .slice oo k oc) ∧ Hs w ov P wr ∧ Hid (P.map (·.1) = (p.take k).map (·.1)) ∧ Hid (P.length = k)) (fun _ iv _ => p.length - (intOf iv).toNat)
  case atStart => exact ⟨0, [], Nat.zero_le _, by go_num, ⟨_, _, rfl⟩, Hs.nil w, rfl, rfl⟩
  case round =>
    obtain ⟨k, P, hk, rfl, ⟨oo, oc, rfl⟩, hS, HP, HPL⟩ := hrel
    by_cases hlt : k < p.length
    · obtain ⟨b, off, rfl, hb, _⟩ := hv.at (by omega)
      obtain ⟨x, y, hxy⟩ : ∃ x y, p[k] = (x, y) := ⟨_, _, rfl⟩
      obtain ⟨⟨c0, c1, c2, c3, c4⟩, hm⟩ := hv.take hS.low k hlt hxy
      have hbd := (HOK.out.2 _ (List.getElem_mem hlt)).1
      rw [hxy] at hbd
      dsimp only at hbd
      obtain ⟨yo, yc, rfl⟩ := hm.form
      have i1 : 0 ≤ (k : Int) := by omega
      have i2 : (k : Int) < (p.length : Int) := by omega
      have hxb := Hx.new wr x (.slice yo x.ls.length yc)
      have hB1 : Below wr.heap.size wr (wr.alloc (hkO x (.slice yo x.ls.length yc))) := (Below.refl _ wr).alloc (Nat.le_refl _) _
      have hS1 := hS.alloc (hkO x (.slice yo x.ls.length yc))
      have hm1 := HMk.keep hm hB1 (Nat.le_refl _)
      have hsz1 : (wr.alloc (hkO x (.slice yo x.ls.length yc))).heap.size = wr.heap.size + 1 := by simp
      have hW1 : wr.alloc (Obj.cells #[Value.int IntKind.i64 x.A, Value.int IntKind.i64 x.AN, Value.int IntKind.i64 x.B, Value.int IntKind.i64 x.BN, .slice yo x.ls.length yc] 43) = wr.alloc (hkO x (.slice yo x.ls.length yc)) := rfl
      go_upto_region 6 with fail
      generalize wr.alloc (hkO x (.slice yo x.ls.length yc)) = W1 at *
      clear hW1
      obtain ⟨x0, x1, x2, x3, x4⟩ := hxb.cells
      have hB2 : Below W1.heap.size W1 (W1.alloc (.cells #[] 91)) := (Below.refl _ W1).alloc (Nat.le_refl _) _
      have hxb2 := hxb.low hB2
      have hm2 := HMk.keep hm1 hB2 (Nat.le_refl _)
      have hS2 := hS1.alloc (.cells #[] 91)
      have hnil := nil_row_new (e := 91) (s := 2) W1 w.heap.size W1.heap.size rfl (by have := hS1.low.size; exact this)
      obtain ⟨y0, y1, y2, y3, y4⟩ := hxb2.cells
      have hlow1 := hS1.low.size
      have hsW2 : (W1.alloc (.cells #[] 91)).heap.size = W1.heap.size + 1 := by simp
      have HSW2 : Hid ((W1.alloc (.cells #[] 91)).heap.size = W1.heap.size + 1) := hsW2
      have HSZ1 : Hid (W1.heap.size = wr.heap.size + 1) := hsz1
      clear hsW2 hsz1
      go_wp2_with (at_builtin; refine wpList_append_w _ (by kernel_rfl) (.tmp 16) (.tmp 18) 41 91 (.agg #[.int .u8 0, .string ⟨#[]⟩]) 2 24 rfl Tryd.underlying41 infoMk rfl (by decide) (by decide) w.heap.size _ _ _ rfl hnil _ x.ls.length (mkcells x.ls) rfl hm2 (mkcells_length _) (mkcells_one _) (by omega) (by have := HSW2.out; omega) ?_)
      intro v3 W3 hown3 hg3 hob3
      obtain ⟨ro, rc, rfl⟩ := (holds_of hown3).form
      have hS3 : Hs w (.slice oo k oc) P W3 := hS.fresh hS2 (k := W1.heap.size) (by have := HSZ1.out; omega) hg3
      have hxb3 : Hx W3 wr.heap.size x (.slice yo x.ls.length yc) := hxb2.keep hg3 (by simp [Value.ownBlock]; have := HSZ1.out; omega)
      obtain ⟨z0, z1, z2, z3, z4⟩ := hxb3.cells
      have zf := hxb3.frozen 4
      have hxb4 := hxb3.setl (.slice ro x.ls.length rc)
      have hg4 := grown_set W3 wr.heap.size 4 (.slice ro x.ls.length rc)
      have hS4 : Hs w (.slice oo k oc) P (W3.setCell ⟨wr.heap.size, 4, none⟩ (.slice ro x.ls.length rc)) := hS.fresh hS3 (k := wr.heap.size) (Nat.le_refl _) hg4
      have hown4 : (W3.setCell ⟨wr.heap.size, 4, none⟩ (.slice ro x.ls.length rc)).ownsRow w.heap.size 91 2 (.slice ro x.ls.length rc) x.ls.length (mkcells x.ls) := hown3.kept hg4 (.inr (by
        have e1 := HSZ1.out
        have e2 := HSW2.out
        rcases hob3 with hob3 | hob3
        · rw [hob3]; simp [Value.ownBlock]; omega
        · rw [hob3]; simp only [ne_eq, Option.some.injEq]; omega))
      obtain ⟨t0, t1, t2, t3, t4⟩ := hxb4.cells
      clear hg3 hg4 hob3 hnil hS2 hS3 hxb hxb2 hxb3 hm1 hm2 x0 x1 x2 x3 x4 y0 y1 y2 y3 y4
      go_upto_region 7 with fail
      generalize W3.setCell ⟨wr.heap.size, 4, none⟩ (.slice ro x.ls.length rc) = W4 at *
      have hS5 := hS4.alloc (hkO x (.slice ro x.ls.length rc))
      have hrow5 := one_row W4 x (.slice ro x.ls.length rc)
      have hown5 := hown4.alloc (hkO x (.slice ro x.ls.length rc))
      have hl4 := hS4.low.size
      have hW5 : W4.alloc (Obj.cells #[Value.int IntKind.i64 x.A, Value.int IntKind.i64 x.AN, Value.int IntKind.i64 x.B, Value.int IntKind.i64 x.BN, .slice ro x.ls.length rc] 43) = W4.alloc (hkO x (.slice ro x.ls.length rc)) := rfl
      have HS5 : Hid ((W4.alloc (hkO x (.slice ro x.ls.length rc))).heap.size = W4.heap.size + 1) := (by show _ = _; simp)
      have hownP := hS5.own
      rw [HPL.out] at hownP
      go_wp2_with (at_builtin; refine wpList_append_w _ (by kernel_rfl) (.tmp 21) (.tmp 23) 29 43 (.agg #[.int .i64 0, .int .i64 0, .int .i64 0, .int .i64 0, .slice none 0 0]) 5 56 rfl Tryd.underlying29 infoHk rfl (by decide) (by decide) w.heap.size _ _ _ rfl hownP _ 1 (hkC x (.slice ro x.ls.length rc)) rfl hrow5 rfl (hkC_one _) (by omega) (by have := HS5.out; omega) ?_)
      intro v6 W6 hown6 hg6 _
      have hS6 := hS5.more hown5 hg6 (ov' := v6) (by rw [HPL.out]; exact hown6)
      obtain ⟨ro6, rc6, rfl⟩ := (holds_of hown6).form
      have HP2 : Hid ((P ++ [(x, Value.slice ro x.ls.length rc)]).map (·.1) = (p.take (k + 1)).map (·.1)) := (by
        show _ = _
        rw [List.map_append, HP.out, List.take_succ_eq_append_getElem hlt, List.map_append, hxy]
        rfl)
      have HPL2 : Hid ((P ++ [(x, Value.slice ro x.ls.length rc)]).length = k + 1) := (by show _ = _; rw [List.length_append, HPL.out]; rfl)
      clear hg6 hown6 hownP hrow5
      go_wp2
      exact ⟨⟨k + 1, P ++ [(x, .slice ro x.ls.length rc)], by omega, by go_num, ⟨_, _, rfl⟩, hS6, HP2, HPL2⟩, by simp [intOf]; omega⟩
    · have hend : decide ((k : Int) < (p.length : Int)) = false := decide_eq_false (by omega)
      obtain rfl : k = p.length := by omega
      go_wp2
      go_ret
      refine ⟨_, rfl, P, hS, ?_⟩
      rw [HP.out, List.take_length]
end Go.Proofs.YtgiojkhmkeocfaaDoor

/- The code's small functions of layer 11, walked: the lines of a side, numbers, places, signs. -/
namespace Go.Proofs.YtgiojkhmkeocfaaDoor
open Go.RowKit

/-- which sign a side has, and which it has not -/
def Sd (sg no : Int) : Prop := sg = 45 ∧ no = 43 ∨ sg = 43 ∧ no = 45
theorem sd_iff {sg no : Int} (h : Sd sg no) (s : Int) : (s ≠ no ∧ okS s = true) ↔ (s = 32 ∨ s = sg) := by
  simp only [okS, Bool.or_eq_true, decide_eq_true_eq]
  rcases h with ⟨rfl, rfl⟩ | ⟨rfl, rfl⟩ <;> omega
theorem pk_take {sg no : Int} (h : Sd sg no) {s : Int} (hs : s = 32 ∨ s = sg) {out R : List (List UInt8)} {tx : List UInt8} {l : List Mk} (hI : out ++ (if s ≠ no ∧ okS s = true then tx :: pkL no l else pkL no l) = R) : out ++ [tx] ++ pkL no l = R := by
  rw [if_pos ((sd_iff h s).2 hs)] at hI
  rw [← hI]
  simp
theorem pk_pass {sg no : Int} (h : Sd sg no) {s : Int} (h1 : s ≠ 32) (h2 : s ≠ sg) {out R : List (List UInt8)} {tx : List UInt8} {l : List Mk} (hI : out ++ (if s ≠ no ∧ okS s = true then tx :: pkL no l else pkL no l) = R) : out ++ pkL no l = R := by
  rw [if_neg (fun q => by rcases (sd_iff h s).1 q with q | q <;> contradiction)] at hI
  exact hI

theorem owns_less {u : World} {base base' : Nat} {e : TypeId} {s : Nat} {v : Value} {n : Nat} {xs : List Value} (h : u.ownsRow base e s v n xs) (hb : base' ≤ base) : u.ownsRow base' e s v n xs := by
  refine ⟨h.1, ?_⟩
  rcases h.2 with q | ⟨b, cap, cur, rfl, q2, q3, q4⟩
  · exact .inl q
  · exact .inr ⟨b, cap, cur, rfl, Nat.le_trans hb q2, q3, q4⟩

set_option maxHeartbeats 2000000 in
theorem hside_o (h : Hk) (v : Value) (sd no : Int) (HSD : Hid (Sd sd no)) (w : World) (hv : HMk w v h.ls) (hl : h.ls.length ≤ 1099511627776) (R : List (List UInt8)) (HR : Hid (pkL no h.ls = R)) : Calls Tryd.prog 73 #[hkV h v, .int .u8 sd] w fun e w' => ∃ v', e = .returned v' ∧ w'.ownsRow w.heap.size 9 1 v' R.length (scells R) ∧ Below w.heap.size w w' := by
  obtain ⟨A, AN, B, BN, ls⟩ := h
  dsimp only at hv hl HR
  obtain ⟨lo, lc, rfl⟩ := HMk.form hv
  have hx := Hx.new w ⟨A, AN, B, BN, ls⟩ (.slice lo ls.length lc)
  have hBl : Below w.heap.size w (w.alloc (hkO ⟨A, AN, B, BN, ls⟩ (.slice lo ls.length lc))) := (Below.refl _ w).alloc (Nat.le_refl _) _
  have hv1 := HMk.keep hv hBl (Nat.le_refl _)
  obtain ⟨_, _, _, _, x4⟩ := hx.cells
  have hW : w.alloc (Obj.cells #[Value.int IntKind.i64 A, Value.int IntKind.i64 AN, Value.int IntKind.i64 B, Value.int IntKind.i64 BN, .slice lo ls.length lc] 43) = w.alloc (hkO ⟨A, AN, B, BN, ls⟩ (.slice lo ls.length lc)) := rfl
  have HSZ : Hid ((w.alloc (hkO ⟨A, AN, B, BN, ls⟩ (.slice lo ls.length lc))).heap.size = w.heap.size + 1) := (by show _ = _; simp)
  unfold hkV
  dsimp only
  clear hv hx
  generalize w.alloc (hkO ⟨A, AN, B, BN, ls⟩ (.slice lo ls.length lc)) = W at *
  go_enter Tryd.func73, Tryd.ntmps73
  go_wp2
  clear hW x4
  go_loopw [5, 11] (fun ov iv wr => ∃ (k : Nat) (out : List (List UInt8)), k ≤ ls.length ∧ out.length ≤ k ∧ iv = .int .i64 (k : Int) ∧ (∃ oo oc, ov = .slice oo out.length oc) ∧ St W 9 1 ov out.length (scells out) wr ∧ Hid (out ++ pkL no (ls.drop k) = R)) (fun _ iv _ => ls.length - (intOf iv).toNat)
  case atStart => exact ⟨0, [], Nat.zero_le _, Nat.le_refl _, by go_num, ⟨_, _, rfl⟩, ⟨hnil_row _ _ _ _, Below.refl _ _⟩, HR⟩
  case round =>
    obtain ⟨k, out, hk, hok, rfl, ⟨oo, oc, rfl⟩, hS, HI⟩ := hrel
    by_cases hlt : k < ls.length
    · obtain ⟨b, off, rfl, hb, _⟩ := HMk.at hv1 (by omega)
      obtain ⟨m, hm⟩ : ∃ m, ls[k] = m := ⟨_, rfl⟩
      obtain ⟨c0, c1⟩ := Low.mk hS.low hv1 k hlt hm
      have HI2 : Hid (out ++ (if m.sg ≠ no ∧ okS m.sg = true then m.tx :: pkL no (ls.drop (k + 1)) else pkL no (ls.drop (k + 1))) = R) := (by
        show _ = _
        rw [← HI.out, List.drop_eq_getElem_cons hlt, hm]
        rfl)
      have i1 : 0 ≤ (k : Int) := by omega
      have i2 : (k : Int) < (ls.length : Int) := by omega
      obtain ⟨m0, m1⟩ := (Mx.new wr m).cells
      have hS1 := st_alloc (mkO m) hS
      have hsS := hS.low.size
      have HSM : Hid ((wr.alloc (mkO m)).heap.size = wr.heap.size + 1) := (by show _ = _; simp)
      have hW2 : wr.alloc (Obj.cells #[Value.int IntKind.u8 m.sg, Value.string ⟨m.tx.toArray⟩] 91) = wr.alloc (mkO m) := rfl
      clear HI hm HR
      go_upto_region 5 with fail
      obtain ⟨sg, tx⟩ := m
      dsimp only at m0 m1 c0 c1 HI2 hW2
      generalize hwr1 : wr.alloc (mkO ⟨sg, tx⟩) = wr1 at *
      clear hW2
      have hs1 := hS1.low.size
      by_cases h1 : sg = 32
      · subst h1
        have HI3 : Hid (out ++ [tx] ++ pkL no (ls.drop (k + 1)) = R) := pk_take HSD.out (.inl rfl) HI2.out
        clear HI2
        go_wp2_with (at_builtin; refine wpList_append_h _ (by kernel_rfl) (.tmp 24) (.tmp 27) 23 9 (.string ⟨#[]⟩) 1 16 rfl Tryd.underlying23 infoStr rfl (by decide) (by decide) W.heap.size _ _ _ rfl (hS1.own.alloc _) _ 1 (scells [tx]) rfl (new_holds _ _ _ _ _ (by decide)) rfl (scells_one _) (by omega) (by simp; omega) ?_)
        intro v2 w2 hown2 hgrow2
        have hB2 : Below W.heap.size W w2 := (hS1.low.alloc hS1.low.size _).grown hgrow2 (by simp; omega) (fun _ hj => owns_ge hS1.own hj)
        rw [← scells_append] at hown2
        obtain ⟨oo2, oc2, rfl⟩ := (holds_of hown2).form
        clear hgrow2
        go_wp2
        exact ⟨⟨k + 1, out ++ [tx], by omega, by simp; omega, by go_num, ⟨_, _, by rw [List.length_append]; rfl⟩, ⟨by rw [List.length_append]; exact hown2, hB2⟩, HI3⟩, by simp [intOf]; omega⟩
      · have e1 : (sg == 32) = false := by simpa using h1
        by_cases h2 : sg = sd
        · subst h2
          have HI3 : Hid (out ++ [tx] ++ pkL no (ls.drop (k + 1)) = R) := pk_take HSD.out (.inr rfl) HI2.out
          clear HI2 h1
          go_wp2_with (at_builtin; refine wpList_append_h _ (by kernel_rfl) (.tmp 24) (.tmp 27) 23 9 (.string ⟨#[]⟩) 1 16 rfl Tryd.underlying23 infoStr rfl (by decide) (by decide) W.heap.size _ _ _ rfl (hS1.own.alloc _) _ 1 (scells [tx]) rfl (new_holds _ _ _ _ _ (by decide)) rfl (scells_one _) (by omega) (by simp; omega) ?_)
          intro v2 w2 hown2 hgrow2
          have hB2 : Below W.heap.size W w2 := (hS1.low.alloc hS1.low.size _).grown hgrow2 (by simp; omega) (fun _ hj => owns_ge hS1.own hj)
          rw [← scells_append] at hown2
          obtain ⟨oo2, oc2, rfl⟩ := (holds_of hown2).form
          clear hgrow2
          go_wp2
          exact ⟨⟨k + 1, out ++ [tx], by omega, by simp; omega, by go_num, ⟨_, _, by rw [List.length_append]; rfl⟩, ⟨by rw [List.length_append]; exact hown2, hB2⟩, HI3⟩, by simp [intOf]; omega⟩
        · have e2 : (sg == sd) = false := by simpa using h2
          have HI3 : Hid (out ++ pkL no (ls.drop (k + 1)) = R) := pk_pass HSD.out h1 h2 HI2.out
          clear HI2 h1 h2
          go_wp2
          exact ⟨⟨k + 1, out, by omega, by omega, by go_num, ⟨_, _, rfl⟩, hS1, HI3⟩, by simp [intOf]; omega⟩
    · have HI3 : Hid (out = R) := (by
        have h := HI.out
        rw [List.drop_of_length_le (by omega)] at h
        show out = R
        simpa [pkL] using h)
      clear HI
      have hend : decide ((k : Int) < (ls.length : Int)) = false := decide_eq_false (by omega)
      go_wp2
      go_ret
      refine ⟨_, rfl, ?_, hBl.trans (hS.low.mono (by have := HSZ.out; omega))⟩
      rw [← HI3.out]
      exact owns_less hS.own (by have := HSZ.out; omega)
theorem hside_f (h : Hk) (v : Value) (sd no : Int) (HSD : Hid (Sd sd no)) (w : World) (hv : HMk w v h.ls) (hl : h.ls.length ≤ 1099511627776) (R : List (List UInt8)) (HR : Hid (pkL no h.ls = R)) : Calls Tryd.prog 73 #[hkV h v, .int .u8 sd] w fun e w' => ∃ v', e = .returned v' ∧ HS w' v' R ∧ Below w.heap.size w w' := by
  refine (hside_o h v sd no HSD w hv hl R HR).mono ?_
  rintro e w1 ⟨v1, rfl, h1, hB1⟩
  exact ⟨v1, rfl, holds_of h1, hB1⟩
theorem hOld_o (h : Hk) (v : Value) (w : World) (hv : HMk w v h.ls) (hl : h.ls.length ≤ 1099511627776) (R : List (List UInt8)) (HR : Hid (oldL h = R)) : Calls Tryd.prog 32 #[hkV h v] w fun e w' => ∃ v', e = .returned v' ∧ w'.ownsRow w.heap.size 9 1 v' R.length (scells R) ∧ Below w.heap.size w w' := by
  have hBl : Below w.heap.size w (w.alloc (hkO h v)) := (Below.refl _ w).alloc (Nat.le_refl _) _
  have hv1 := HMk.keep hv hBl (Nat.le_refl _)
  obtain ⟨c0, c1, c2, c3, c4⟩ := (Hx.new w h v).cells
  unfold hkO at c0 c1 c2 c3 c4 hBl hv1
  obtain ⟨lo, lc, rfl⟩ := HMk.form hv
  have e : hkV h (.slice lo h.ls.length lc) = .agg #[.int .i64 h.A, .int .i64 h.AN, .int .i64 h.B, .int .i64 h.BN, .slice lo h.ls.length lc] := rfl
  rw [e]
  go_enter Tryd.func32, Tryd.ntmps32
  go_wp2_with fail
  refine (hside_o h _ 45 43 (.inl ⟨rfl, rfl⟩) _ hv1 hl R HR).mono ?_
  rintro e w1 ⟨v1, rfl, hv1, hB1⟩
  obtain ⟨vo, vc, rfl⟩ := Holds.form (holds_of hv1)
  go_wp2
  go_ret
  exact ⟨_, rfl, owns_less hv1 hBl.size, hBl.trans (hB1.mono hBl.size)⟩
theorem hOld_f (h : Hk) (v : Value) (w : World) (hv : HMk w v h.ls) (hl : h.ls.length ≤ 1099511627776) (R : List (List UInt8)) (HR : Hid (oldL h = R)) : Calls Tryd.prog 32 #[hkV h v] w fun e w' => ∃ v', e = .returned v' ∧ HS w' v' R ∧ Below w.heap.size w w' := by
  refine (hOld_o h v w hv hl R HR).mono ?_
  rintro e w1 ⟨v1, rfl, h1, hB1⟩
  exact ⟨v1, rfl, holds_of h1, hB1⟩
theorem hNew_o (h : Hk) (v : Value) (w : World) (hv : HMk w v h.ls) (hl : h.ls.length ≤ 1099511627776) (R : List (List UInt8)) (HR : Hid (newL h = R)) : Calls Tryd.prog 34 #[hkV h v] w fun e w' => ∃ v', e = .returned v' ∧ w'.ownsRow w.heap.size 9 1 v' R.length (scells R) ∧ Below w.heap.size w w' := by
  have hBl : Below w.heap.size w (w.alloc (hkO h v)) := (Below.refl _ w).alloc (Nat.le_refl _) _
  have hv1 := HMk.keep hv hBl (Nat.le_refl _)
  obtain ⟨c0, c1, c2, c3, c4⟩ := (Hx.new w h v).cells
  unfold hkO at c0 c1 c2 c3 c4 hBl hv1
  obtain ⟨lo, lc, rfl⟩ := HMk.form hv
  have e : hkV h (.slice lo h.ls.length lc) = .agg #[.int .i64 h.A, .int .i64 h.AN, .int .i64 h.B, .int .i64 h.BN, .slice lo h.ls.length lc] := rfl
  rw [e]
  go_enter Tryd.func34, Tryd.ntmps34
  go_wp2_with fail
  refine (hside_o h _ 43 45 (.inr ⟨rfl, rfl⟩) _ hv1 hl R HR).mono ?_
  rintro e w1 ⟨v1, rfl, hv1, hB1⟩
  obtain ⟨vo, vc, rfl⟩ := Holds.form (holds_of hv1)
  go_wp2
  go_ret
  exact ⟨_, rfl, owns_less hv1 hBl.size, hBl.trans (hB1.mono hBl.size)⟩
theorem hNew_f (h : Hk) (v : Value) (w : World) (hv : HMk w v h.ls) (hl : h.ls.length ≤ 1099511627776) (R : List (List UInt8)) (HR : Hid (newL h = R)) : Calls Tryd.prog 34 #[hkV h v] w fun e w' => ∃ v', e = .returned v' ∧ HS w' v' R ∧ Below w.heap.size w w' := by
  refine (hNew_o h v w hv hl R HR).mono ?_
  rintro e w1 ⟨v1, rfl, h1, hB1⟩
  exact ⟨v1, rfl, holds_of h1, hB1⟩

/-- may a hunk say that number of its lines? -/
def nmB (a n : Int) : Bool := nat31 a && nat31 n && !(decide (a = 0) && decide (0 < n))
theorem hnumbered_f (a n : Int) (w : World) (r : Bool) (HR : Hid (nmB a n = r)) : Calls Tryd.prog 45 #[.int .i64 a, .int .i64 n] w fun e w' => e = .returned (.bool r) ∧ w' = w := by
  have hr : r = true ↔ (0 ≤ a ∧ a ≤ 2147483647 ∧ 0 ≤ n ∧ n ≤ 2147483647 ∧ (0 < a ∨ n = 0)) := by
    rw [← HR.out]
    unfold nmB nat31
    simp only [Bool.and_eq_true, decide_eq_true_eq, Bool.not_eq_true', Bool.and_eq_false_iff, decide_eq_false_iff_not]
    omega
  have HRR : Hid (r = true ↔ (0 ≤ a ∧ a ≤ 2147483647 ∧ 0 ≤ n ∧ n ≤ 2147483647 ∧ (0 < a ∨ n = 0))) := hr
  clear hr HR
  have no : ∀ {p : Prop}, p → (p → ¬ (0 ≤ a ∧ a ≤ 2147483647 ∧ 0 ≤ n ∧ n ≤ 2147483647 ∧ (0 < a ∨ n = 0))) → Ending.returned (.bool false) = .returned (.bool r) := fun hp h => by
    cases r with
    | false => rfl
    | true => exact absurd (HRR.out.1 rfl) (h hp)
  go_enter Tryd.func45, Tryd.ntmps45
  by_cases h1 : a < 0
  · go_wp2
    go_ret
    exact ⟨no h1 (fun _ => by omega), rfl⟩
  · have e1 : decide (a < 0) = false := decide_eq_false h1
    by_cases h2 : 2147483647 < a
    · go_wp2
      go_ret
      exact ⟨no h2 (fun _ => by omega), rfl⟩
    · have e2 : decide (2147483647 < a) = false := decide_eq_false h2
      by_cases h3 : n < 0
      · go_wp2
        go_ret
        exact ⟨no h3 (fun _ => by omega), rfl⟩
      · have e3 : decide (n < 0) = false := decide_eq_false h3
        by_cases h4 : 2147483647 < n
        · go_wp2
          go_ret
          exact ⟨no h4 (fun _ => by omega), rfl⟩
        · have e4 : decide (2147483647 < n) = false := decide_eq_false h4
          by_cases h5 : 0 < a
          · obtain rfl : r = true := HRR.out.2 (by omega)
            go_wp2
            go_ret
            exact ⟨rfl, rfl⟩
          · have e5 : decide (0 < a) = false := decide_eq_false h5
            by_cases h6 : n = 0
            · obtain rfl : r = true := HRR.out.2 (by omega)
              subst h6
              go_wp2
              go_ret
              exact ⟨rfl, rfl⟩
            · have e6 : (n == 0) = false := by simpa using h6
              go_wp2
              go_ret
              exact ⟨no h6 (fun _ => by omega), rfl⟩
theorem hnumberOf_f (a n : Int) (w : World) (h1 : -4611686018427387904 ≤ a) (h2 : a ≤ 4611686018427387904) (r : Int) (HR : Hid ((if 0 < n then a + 1 else a) = r)) : Calls Tryd.prog 109 #[.int .i64 a, .int .i64 n] w fun e w' => e = .returned (.int .i64 r) ∧ w' = w := by
  have hr := HR.out
  clear HR
  go_enter Tryd.func109, Tryd.ntmps109
  by_cases h : 0 < n
  · rw [if_pos h] at hr
    subst hr
    go_wp2
    go_ret
    exact ⟨by go_num, rfl⟩
  · rw [if_neg h] at hr
    subst hr
    have e : decide (0 < n) = false := decide_eq_false h
    go_wp2
    go_ret
    exact ⟨rfl, rfl⟩
/-- is a line changed? is its sign none? -/
def chgB (m : Mk) : Bool := decide (m.sg = 45) || decide (m.sg = 43)
theorem hchanged_f (m : Mk) (w : World) : Calls Tryd.prog 49 #[.agg #[.int .u8 m.sg, .string ⟨m.tx.toArray⟩]] w fun e w' => e = .returned (.bool (chgB m)) ∧ Below w.heap.size w w' := by
  obtain ⟨sg, tx⟩ := m
  obtain ⟨m0, m1⟩ := (Mx.new w ⟨sg, tx⟩).cells
  have hB : Below w.heap.size w (w.alloc (mkO ⟨sg, tx⟩)) := (Below.refl _ w).alloc (Nat.le_refl _) _
  unfold mkO at m0 m1 hB
  dsimp only at m0 m1 hB
  unfold chgB
  by_cases h1 : sg = 45
  · subst h1
    go_enter Tryd.func49, Tryd.ntmps49
    go_wp2
    go_ret
    exact ⟨rfl, hB⟩
  · have e1 : (sg == 45) = false := by simpa using h1
    by_cases h2 : sg = 43
    · subst h2
      go_enter Tryd.func49, Tryd.ntmps49
      go_wp2
      go_ret
      exact ⟨rfl, hB⟩
    · have e2 : (sg == 43) = false := by simpa using h2
      have HE : Hid ((decide (sg = 45) || decide (sg = 43)) = false) := (by show _ = _; simp [h1, h2])
      rw [HE.out]
      clear HE h1 h2
      go_enter Tryd.func49, Tryd.ntmps49
      go_wp2
      go_ret
      exact ⟨rfl, hB⟩
theorem hstrange_f (m : Mk) (w : World) : Calls Tryd.prog 47 #[.agg #[.int .u8 m.sg, .string ⟨m.tx.toArray⟩]] w fun e w' => e = .returned (.bool (!okS m.sg)) ∧ Below w.heap.size w w' := by
  obtain ⟨m0, m1⟩ := (Mx.new w m).cells
  have hB : Below w.heap.size w (w.alloc (mkO m)) := (Below.refl _ w).alloc (Nat.le_refl _) _
  have hW : w.alloc (.cells #[.int .u8 m.sg, .string ⟨m.tx.toArray⟩] 91) = w.alloc (mkO m) := rfl
  generalize w.alloc (mkO m) = W at *
  by_cases h1 : m.sg = 32
  · have HE : Hid (okS m.sg = true) := (by show _ = _; rw [h1]; rfl)
    rw [HE.out]
    have e1 : (m.sg != 32) = false := by simpa using h1
    clear HE h1
    go_enter Tryd.func47, Tryd.ntmps47
    go_wp2
    go_ret
    exact ⟨rfl, hB⟩
  · have e1 : (m.sg != 32) = true := by simpa using h1
    obtain ⟨r, hr⟩ : ∃ r, chgB m = r := ⟨_, rfl⟩
    have HE : Hid (okS m.sg = r) := (by
      show _ = _
      rw [← hr]
      unfold okS chgB
      simp [h1])
    have HC := hchanged_f m W
    rw [hr] at HC
    rw [HE.out]
    clear HE h1 hr
    go_enter Tryd.func47, Tryd.ntmps47
    go_wp2_with fail
    refine HC.mono ?_
    rintro e w1 ⟨rfl, hB1⟩
    go_wp2
    go_ret
    exact ⟨rfl, hB.trans (hB1.mono hB.size)⟩
end Go.Proofs.YtgiojkhmkeocfaaDoor

/- The reference's Invert of layer 11, walked. -/
namespace Go.Proofs.YtgiojkhmkeocfaaDoor
open Go.RowKit

/-- two operations that yield values, whichever comes first -/
theorem go_two {P : Program} {S : World → Prop} {md : Region.Mode} {ops : Array Oper} {Q : Exit → Act → World → Prop} {fuel : Nat} {listed : Array Bool} {A : Act} {w : World}
    (i d : Nat) (op : Oper) (j e : Nat) (oq : Oper) (hi : ops[i]? = some op) (hd : op.dst = some d) (hj : ops[j]? = some oq) (he : oq.dst = some e) (hr : Region.ready md ops listed = [i, j]) (hwt : Region.wanted op (yielded ops A.tmps) = true) (hwq : Region.wanted oq (yielded ops A.tmps) = true)
    (vp : Value) (wp : World) (hp : (execOp A.eval op).run P w = .ok (.value vp) wp) (hSp : S wp)
    (vq : Value) (wq : World) (hq : (execOp A.eval oq).run P w = .ok (.value vq) wq) (hSq : S wq)
    (h : wpAnyH P md ops Q S fuel (listed.setIfInBounds i true) (A.put (some d) vp) wp)
    (h2 : wpAnyH P md ops Q S fuel (listed.setIfInBounds j true) (A.put (some e) vq) wq) :
    wpAnyH P md ops Q S (fuel + 1) listed A w := by
  refine wpAnyH_ready hr (by simp) (AllReadyH.cons hi (fun K hK => ?_) (AllReadyH.cons hj (fun K hK => ?_) AllReadyH.nil))
  · refine step_want hwt ?_
    unfold Oper.wp
    rw [hp, Oper.upon_value]
    exact hK.out _ _ hSp (fun _ => by rw [hd]; exact h)
  · refine step_want hwq ?_
    unfold Oper.wp
    rw [hq, Oper.upon_value]
    exact hK.out _ _ hSq (fun _ => by rw [he]; exact h2)
/-- append, run by itself -/
theorem exec_app {w w' : World} {T : TypeId} {v vx v' : Value} {op : Oper} (x y : Operand) (ho : op.op = .call { callee := .builtin .append, args := #[x, y], argTypes := #[T, T] }) {ev : Operand → Value} (hx : ev x = v) (hy : ev y = vx) (hr : (Builtin.append_ #[T, T] op.type #[v, vx]).run Tryd.prog w = .ok v' w') :
    (execOp ev op).run Tryd.prog w = .ok (.value v') w' := by
  simp [execOp, ho, resolve, invoke, builtin, hx, hy, hr, Result.andThen]
/-- a line is read out of its box -/
theorem load_mk {u : World} {b : Nat} {m : Mk} (q : Mx u b m) {op : Oper} (x : Operand) (ho : op.op = .load 91 x) {ev : Operand → Value} (hx : ev x = .pointer (some ⟨b, 0, none⟩)) :
    (execOp ev op).run Tryd.prog u = .ok (.value (.agg #[.int .u8 m.sg, .string ⟨m.tx.toArray⟩])) u := by
  have hL : (loadVar 91 ⟨b, 0, none⟩).run Tryd.prog u = .ok (.agg #[.int .u8 m.sg, .string ⟨m.tx.toArray⟩]) u := run_loadVar_row u b _ _ _ _ _ q Tryd.underlying91 rfl (by kernel_rfl)
  simp only [execOp, ho, hx, Instr.loadAt, Instr.sureAddr, Sem.run_bind, Sem.run_pure, Result.andThen_ok, hL]
theorem load_mks {u : World} {a : Addr} {o : Option Addr} {n c : Nat} (h : u.cell? a = some (.slice o n c)) {op : Oper} (x : Operand) (ho : op.op = .load 41 x) {ev : Operand → Value} (hx : ev x = .pointer (some a)) :
    (execOp ev op).run Tryd.prog u = .ok (.value (.slice o n c)) u := by
  simp only [execOp, ho, hx]
  go_simp

/-- lines that grow in a hunk's box, and lines that wait: all else as it was -/
structure Iv (w : World) (q : Hk) (ov : Value) (x : List Mk) (av : Value) (y : List Mk) (u : World) : Prop where
  low : Below w.heap.size w u
  box : Hx u w.heap.size q ov
  own : u.ownsRow (w.heap.size + 1) 91 2 ov x.length (mkcells x)
  add : u.ownsRow (w.heap.size + 1) 91 2 av y.length (mkcells y)
  ne : ∀ g, ov.ownBlock = some g → av.ownBlock ≠ some g
section
variable {w : World} {q : Hk} {ov ov' av av' : Value} {x x' y y' : List Mk} {u u' : World}
theorem Iv.alloc (h : Iv w q ov x av y u) (o : Obj) : Iv w q ov x av y (u.alloc o) :=
  ⟨h.low.alloc h.low.size o, h.box.low ((Below.refl _ u).alloc (Nat.le_refl _) o), h.own.alloc o, h.add.alloc o, h.ne⟩
theorem Iv.drewN (h : Iv w q ov x av y u) (n : Nat) : Iv w q ov x av y (u.drewN n) := ⟨Below.dN h.low n, h.box, h.own, h.add, h.ne⟩
theorem own_kept {e : TypeId} {s B : Nat} {v : Value} {n : Nat} {xs : List Value} (ho : u.ownsRow B e s v n xs) {g : Option Nat} (hg : u.grownBy u' g) (hne : ∀ k, g = some k → v.ownBlock ≠ some k) : u'.ownsRow B e s v n xs := by
  refine ⟨ho.1, ?_⟩
  rcases ho.2 with q | ⟨b, cap, cur, rfl, q2, q3, q4⟩
  · exact .inl q
  · refine .inr ⟨b, cap, cur, rfl, q2, ?_, q4⟩
    rw [hg.block b (Array.getElem?_eq_some_iff.1 q3).1 (fun e => hne b e.symm rfl)]
    exact q3
/-- lines more -/
theorem Iv.grow (h : Iv w q ov x av y u) (hg : u.grownBy u' ov.ownBlock) (ho : u'.ownsRow (w.heap.size + 1) 91 2 ov' x'.length (mkcells x')) (hb : ov'.ownBlock = ov.ownBlock ∨ ov'.ownBlock = some u.heap.size) : Hx u' w.heap.size q ov ∧ Iv w q ov' x' av y (u'.setCell ⟨w.heap.size, 4, none⟩ ov') := by
  have hbx : Hx u' w.heap.size q ov := h.box.keep hg (fun e => by have := owns_ge h.own e.symm; omega)
  have hadd := own_kept h.add hg (fun k hk => h.ne k hk)
  have hs := grown_set u' w.heap.size 4 ov'
  have hlow : Below w.heap.size w u' := h.low.grown hg h.low.size (fun j hj => by have := owns_ge h.own hj; omega)
  refine ⟨hbx, hlow.grown hs hlow.size (fun j hj => by cases hj; exact Nat.le_refl _), hbx.setl ov', own_kept ho hs ?_, own_kept hadd hs ?_, ?_⟩
  · intro k hk e
    cases hk
    have := owns_ge ho e
    omega
  · intro k hk e
    cases hk
    have := owns_ge h.add e
    omega
  · intro g hg' e
    rcases hb with hb | hb
    · rw [hb] at hg'
      exact h.ne g hg' e
    · rw [hb] at hg'
      cases hg'
      have := own_lt h.add e
      omega
/-- lines more that wait -/
theorem Iv.wait (h : Iv w q ov x av y u) (hg : u.grownBy u' av.ownBlock) (ho : u'.ownsRow (w.heap.size + 1) 91 2 av' y'.length (mkcells y')) (hb : av'.ownBlock = av.ownBlock ∨ av'.ownBlock = some u.heap.size) : Iv w q ov x av' y' u' := by
  refine ⟨h.low.grown hg h.low.size (fun j hj => by have := owns_ge h.add hj; omega), h.box.keep hg (fun e => by have := owns_ge h.add e.symm; omega), own_kept h.own hg (fun k hk e => h.ne k e hk), ho, ?_⟩
  intro g hg' e
  rcases hb with hb | hb
  · rw [hb] at e
    exact h.ne g hg' e
  · rw [hb] at e
    cases e
    have := own_lt h.own hg'
    omega
/-- lines more, and none that wait -/
theorem Iv.last (h : Iv w q ov x av y u) (hg : u.grownBy u' ov.ownBlock) (ho : u'.ownsRow (w.heap.size + 1) 91 2 ov' x'.length (mkcells x')) : Hx u' w.heap.size q ov ∧ Iv w q ov' x' (.slice none 0 0) [] (u'.setCell ⟨w.heap.size, 4, none⟩ ov') := by
  have hbx : Hx u' w.heap.size q ov := h.box.keep hg (fun e => by have := owns_ge h.own e.symm; omega)
  have hs := grown_set u' w.heap.size 4 ov'
  have hlow : Below w.heap.size w u' := h.low.grown hg h.low.size (fun j hj => by have := owns_ge h.own hj; omega)
  refine ⟨hbx, hlow.grown hs hlow.size (fun j hj => by cases hj; exact Nat.le_refl _), hbx.setl ov', own_kept ho hs ?_, hnil_row _ _ _ _, fun g _ e => by cases e⟩
  intro k hk e
  cases hk
  have := owns_ge ho e
  omega
theorem grown_then {r r' : Option Nat} {u'' : World} (h : u.grownBy u' r) (h' : u'.grownBy u'' r') (hr : r' = r ∨ ∃ k, r' = some k ∧ u.heap.size ≤ k) : u.grownBy u'' r := by
  refine ⟨h'.os.trans h.os, h'.tape.trans h.tape, h'.output.trans h.output, Nat.le_trans h.size h'.size, fun k hk hne => ?_⟩
  rw [h'.block k (Nat.lt_of_lt_of_le hk h.size) ?_]
  · exact h.block k hk hne
  · intro e
    rcases hr with hr | ⟨j, hr, hj⟩
    · exact hne (e.trans hr)
    · rw [hr] at e
      cases e
      omega
theorem grown_alloc {r : Option Nat} (h : u.grownBy u' r) (o : Obj) : u.grownBy (u'.alloc o) r :=
  ⟨h.os, h.tape, h.output, Nat.le_trans h.size (by simp), fun k hk hne => by rw [Below.heap_alloc _ _ _ (Nat.lt_of_lt_of_le hk h.size)]; exact h.block k hk hne⟩
theorem Hx.put5 {b : Nat} {h : Hk} {v : Value} (p : Hx u b h v) (z0 z1 z2 z3 z4 : Value) : (((((u.setCell ⟨b, 0, none⟩ z0).setCell ⟨b, 1, none⟩ z1).setCell ⟨b, 2, none⟩ z2).setCell ⟨b, 3, none⟩ z3).setCell ⟨b, 4, none⟩ z4).heap[b]? = some (.cells #[z0, z1, z2, z3, z4] 43 (0, 0)) := by
  have s1 := heap_setCell_same u b 0 _ _ z0 p
  have s2 := heap_setCell_same _ b 1 _ _ z1 s1
  have s3 := heap_setCell_same _ b 2 _ _ z2 s2
  have s4 := heap_setCell_same _ b 3 _ _ z3 s3
  exact heap_setCell_same _ b 4 _ _ z4 s4
theorem own_base {e : TypeId} {s B B' : Nat} {v : Value} {n : Nat} {xs : List Value} (ho : u.ownsRow B e s v n xs) (hB : B' ≤ B) : u.ownsRow B' e s v n xs := by
  refine ⟨ho.1, ?_⟩
  rcases ho.2 with q | ⟨b, cap, cur, rfl, q2, q3, q4⟩
  · exact .inl q
  · exact .inr ⟨b, cap, cur, rfl, by omega, q3, q4⟩
theorem Iv.none (h : Iv w q ov x av y u) : Iv w q ov x (.slice none 0 0) [] u := ⟨h.low, h.box, h.own, hnil_row _ _ _ _, fun g _ e => by cases e⟩
end
theorem mk_row (w : World) (m : Mk) : Holds (w.alloc (mkO m)) (.slice (some ⟨w.heap.size, 0, none⟩) 1 1) 1 (mkcells [m]) := new_holds w #[.int .u8 m.sg, .string ⟨m.tx.toArray⟩] 91 1 1 (by decide)

theorem exec_storeL {u : World} {b j : Nat} {v : Value} (hf : u.frozen? ⟨b, j, none⟩ = false) {o n c} (hc : u.cell? ⟨b, j, none⟩ = some (.slice o n c)) {o' n' c'} (hv : v = .slice o' n' c') {op : Oper} (x y : Operand) (ho : op.op = .store 41 x y) {ev : Operand → Value} (hx : ev x = .pointer (some ⟨b, j, none⟩)) (hy : ev y = v) :
    (execOp ev op).run Tryd.prog u = .ok .skip (u.setCell ⟨b, j, none⟩ v) := by
  subst hv
  simp only [execOp, ho, hx, hy]
  go_simp

end Go.Proofs.YtgiojkhmkeocfaaDoor
