/-
  Texts that belong together, joined: PcReg, HuRf4, HuRf5, HuRf6, HuRf7, PcLs, HuOwn, HuC1, EdRChk, EdOpen, EdOpenS, HuOpen.
-/
import Derived.Test.YtgiojkhmkeocfaaDoorCtPriA2
import Derived.Deep.CutRange
import Derived.Deep.DeepCutAuto
import Derived.Laws.Rows
import Derived.Test.YtgiojkhmkeocfaaDoorRows
import Derived.Test.YtgiojkhmkeocfaaDoorChecked
import Derived.ProofKit
import Derived.OpenShut
import Derived.ShutString
import Derived.ChangeOld
import Derived.Below
import Derived.SliceStrings
import Derived.ChangeSlices
import Derived.Deep.Slices
import Derived.Deep.SlicePairs
import Derived.JoinedCond

/- Steps of a region that draws its order, taken one by one where a guard says no: reads, calls by their contracts. -/
namespace Go.Proofs.YtgiojkhmkeocfaaDoor
open Go.RowKit

theorem step_want {b : Bool} {X Y : Prop} (h : b = true) (hX : X) : if b = true then X else Y := by
  rw [if_pos h]
  exact hX
theorem step_none {b : Bool} {X Y : Prop} (h : b = false) (hY : Y) : if b = true then X else Y := by
  rw [if_neg (by rw [h]; exact Bool.false_ne_true)]
  exact hY
/-- an operation that reads alone, or is not wanted, from one stage of the region to the next -/
theorem go_take {P : Program} {S : World → Prop} {md : Region.Mode} {ops : Array Oper} {Q : Exit → Act → World → Prop} {fuel : Nat} {listed : Array Bool} {A : Act} {w : World}
    (i d : Nat) (op : Oper) (v : Value) (hi : ops[i]? = some op) (hd : op.dst = some d) (hs : Region.noSelect ops = true) (hf : Region.free md ops listed i = true) (hr : (Region.ready md ops listed).contains i = true)
    (hQ : ∀ c a w, Q (.panic c) (a.put op.dst v) w → Q (.panic c) a w) (hy : YieldsIf P ops S op v A) (hS : S w)
    (h : wpAnyH P md ops Q S fuel (listed.setIfInBounds i true) (A.put (some d) v) w) : wpAnyH P md ops Q S (fuel + 1) listed A w :=
  wpAnyH_take hi hs hf hr hQ hy hS (by rw [hd]; exact h)
/-- an operation that is not wanted, where nothing else may come up -/
theorem go_none {P : Program} {S : World → Prop} {md : Region.Mode} {ops : Array Oper} {Q : Exit → Act → World → Prop} {fuel : Nat} {listed : Array Bool} {A : Act} {w : World}
    (i d : Nat) (op : Oper) (hi : ops[i]? = some op) (hd : op.dst = some d) (hr : Region.ready md ops listed = [i]) (hwt : Region.wanted op (yielded ops A.tmps) = false) (hS : S w)
    (h : wpAnyH P md ops Q S fuel (listed.setIfInBounds i true) (A.put (some d) undef) w) :
    wpAnyH P md ops Q S (fuel + 1) listed A w := by
  refine wpAnyH_ready hr (by simp) (AllReadyH.cons hi (fun K hK => ?_) AllReadyH.nil)
  refine step_none hwt ?_
  exact hK.out _ _ hS (fun _ => by rw [hd]; exact h)
/-- a call of whatever function value by its contract, where nothing else may come up; R: what is told of what is answered -/
theorem go_callE {P : Program} {S : World → Prop} {md : Region.Mode} {ops : Array Oper} {Q : Exit → Act → World → Prop} {fuel : Nat} {listed : Array Bool} {A : Act} {w : World}
    (i d : Nat) (op : Oper) (hi : ops[i]? = some op) (hd : op.dst = some d) (hr : Region.ready md ops listed = [i]) (hwt : Region.wanted op (yielded ops A.tmps) = true)
    (F : Nat) (x : Operand) (xs : Array Operand) (ts : Array TypeId) (ho : op.op = .call { callee := .value x, args := xs, argTypes := ts })
    (cap : Array Value) (hxv : A.eval x = .func (.func F) #[] cap) (args : Array Value) (hx : xs.map A.eval = args) (hen : ∀ args w, (callFunc F args).run P w = .ok (.enter F args) w) (R : Value → World → Prop)
    (hc : Calls P F (args ++ cap) w fun e w' => ∃ v, e = .returned v ∧ S w' ∧ R v w')
    (h : ∀ v w', S w' → R v w' → wpAnyH P md ops Q S fuel (listed.setIfInBounds i true) (A.put (some d) v) w') :
    wpAnyH P md ops Q S (fuel + 1) listed A w := by
  refine wpAnyH_ready hr (by simp) (AllReadyH.cons hi (fun K hK => ?_) AllReadyH.nil)
  refine step_want hwt ?_
  unfold Oper.wp
  have e : (execOp A.eval op).run P w = .ok (.enter F (args ++ cap)) w := by
    have h1 := hen (args ++ cap) w
    simp only [execOp, ho, resolve, invoke]
    simp only [hxv, Deferred.ofValue, Sem.run_bind, Sem.run_pure, Result.andThen_ok, hx, Array.empty_append]
    exact h1
  rw [e, Oper.upon_enter]
  refine hc.mono ?_
  rintro e w' ⟨v, rfl, hb, hR⟩
  exact hK.out _ _ hb (fun hu => by rw [hd]; exact h v w' hu hR)
/-- a number, a slice, a function value is read -/
theorem load_int {u : World} {a : Addr} {z : Int} (h : u.cell? a = some (.int .i64 z)) {op : Oper} (x : Operand) (ho : op.op = .load 3 x) {ev : Operand → Value} (hx : ev x = .pointer (some a)) :
    (execOp ev op).run Tryd.prog u = .ok (.value (.int .i64 z)) u := by
  simp only [execOp, ho, hx]
  go_simp
end Go.Proofs.YtgiojkhmkeocfaaDoor

/- The reference's Check of layer 11, walked. -/
namespace Go.Proofs.YtgiojkhmkeocfaaDoor
open Go.RowKit

/-- a hunk is read out of its box -/
theorem load_hk {u : World} {b : Nat} {h : Hk} {v : Value} (q : Hx u b h v) {op : Oper} (x : Operand) (ho : op.op = .load 43 x) {ev : Operand → Value} (hx : ev x = .pointer (some ⟨b, 0, none⟩)) :
    (execOp ev op).run Tryd.prog u = .ok (.value (hkV h v)) u := by
  have hL : (loadVar 43 ⟨b, 0, none⟩).run Tryd.prog u = .ok (hkV h v) u := run_loadVar_row u b _ _ _ _ _ q Tryd.underlying43 rfl (by kernel_rfl)
  simp only [execOp, ho, hx, Instr.loadAt, Instr.sureAddr, Sem.run_bind, Sem.run_pure, Result.andThen_ok, hL]
/-- Old and New within a region that draws -/
theorem old_held {h : Hk} {v : Value} {W u : World} (hv : HMk W v h.ls) (hl : h.ls.length ≤ 1099511627776) {R : List (List UInt8)} (HR : Hid (oldL h = R)) (hL : Low W u) : Calls Tryd.prog 134 (#[hkV h v] ++ #[]) u fun e w' => ∃ x, e = .returned x ∧ Low W w' ∧ ∃ o c, x = .slice o R.length c := by
  refine (rOld_f h v u (HMk.keep hv hL (Nat.le_refl _)) hl R HR).mono ?_
  rintro e w' ⟨x, rfl, hx, hB⟩
  obtain ⟨o, c, rfl⟩ := Holds.form hx
  refine ⟨_, rfl, hL.trans (hB.mono hL.size), o, c, ?_⟩
  rfl
theorem new_held {h : Hk} {v : Value} {W u : World} (hv : HMk W v h.ls) (hl : h.ls.length ≤ 1099511627776) {R : List (List UInt8)} (HR : Hid (newL h = R)) (hL : Low W u) : Calls Tryd.prog 135 (#[hkV h v] ++ #[]) u fun e w' => ∃ x, e = .returned x ∧ Low W w' ∧ ∃ o c, x = .slice o R.length c := by
  refine (rNew_f h v u (HMk.keep hv hL (Nat.le_refl _)) hl R HR).mono ?_
  rintro e w' ⟨x, rfl, hx, hB⟩
  obtain ⟨o, c, rfl⟩ := Holds.form hx
  refine ⟨_, rfl, hL.trans (hB.mono hL.size), o, c, ?_⟩
  rfl

set_option maxRecDepth 10000 in
set_option maxHeartbeats 4000000 in
theorem rhCheck_f (h : Hk) (v : Value) (w : World) (hv : HMk w v h.ls) (hl : h.ls.length ≤ 1099511627776) (htx : ∀ m ∈ h.ls, m.tx.length ≤ 1099511627776) (r : Int) (HR : Hid (chkH h = r)) : Calls Tryd.prog 97 #[hkV h v] w fun e w' => e = .returned (.int .i64 r) ∧ Below w.heap.size w w' := by
  obtain ⟨A, AN, B, BN, ls⟩ := h
  dsimp only at hv hl htx
  obtain ⟨lo, lc, rfl⟩ := HMk.form hv
  have hx := Hx.new w ⟨A, AN, B, BN, ls⟩ (.slice lo ls.length lc)
  have hBl : Below w.heap.size w (w.alloc (hkO ⟨A, AN, B, BN, ls⟩ (.slice lo ls.length lc))) := (Below.refl _ w).alloc (Nat.le_refl _) _
  have hv1 := HMk.keep hv hBl (Nat.le_refl _)
  have HTX : Hid (∀ m ∈ ls, m.tx.length ≤ 1099511627776) := htx
  have HSZ : Hid ((w.alloc (hkO ⟨A, AN, B, BN, ls⟩ (.slice lo ls.length lc))).heap.size = w.heap.size + 1) := (by show _ = _; simp)
  clear htx hv
  obtain ⟨x0, x1, x2, x3, x4⟩ := hx.cells
  unfold hkV
  dsimp only at x0 x1 x2 x3 x4 ⊢
  have hW0 : w.alloc (hkO ⟨A, AN, B, BN, ls⟩ (.slice lo ls.length lc)) = w.alloc (Obj.cells #[Value.int IntKind.i64 A, Value.int IntKind.i64 AN, Value.int IntKind.i64 B, Value.int IntKind.i64 BN, .slice lo ls.length lc] 43) := rfl
  generalize w.alloc (hkO ⟨A, AN, B, BN, ls⟩ (.slice lo ls.length lc)) = W at *
  have hW := hW0.symm
  clear hW0
  go_enter Tryd.func97, Tryd.ntmps97
  go_upto_region 1 with fail
  clear hW
  obtain ⟨g, hg⟩ : ∃ g, rngB ⟨A, AN, B, BN, ls⟩ = g := ⟨_, rfl⟩
  have HGG : Hid (rngB ⟨A, AN, B, BN, ls⟩ = g) := hg
  clear hg
  go_cut [45] from 4 to 45 (fun c wz => c = .bool (!g) ∧ wz = W)
  case first =>
    obtain ⟨p1, hp1⟩ : ∃ p, nat31 A = p := ⟨_, rfl⟩
    obtain ⟨p2, hp2⟩ : ∃ p, nat31 AN = p := ⟨_, rfl⟩
    obtain ⟨p3, hp3⟩ : ∃ p, nat31 B = p := ⟨_, rfl⟩
    obtain ⟨p4, hp4⟩ : ∃ p, nat31 BN = p := ⟨_, rfl⟩
    have HG : Hid ((p1 && p2 && p3 && p4 && !(decide (A = 0) && decide (0 < AN)) && !(decide (B = 0) && decide (0 < BN))) = g) := (by show _ = _; rw [← HGG.out, ← hp1, ← hp2, ← hp3, ← hp4]; rfl)
    clear HGG HR
    go_wp2_with fail
    refine (rnumber_any A W).mono ?_
    rintro e w1 ⟨rfl, hw⟩
    rw [hp1, hw]
    clear hw
    cases p1 with
    | false =>
      obtain rfl : g = false := by rw [← HG.out]; simp
      clear HG hp1 hp2 hp3 hp4
      go_wp2
      go_meet
      case rel => exact ⟨rfl, rfl⟩
    | true =>
      go_wp2_with fail
      refine (rnumber_any AN W).mono ?_
      rintro e w1 ⟨rfl, hw⟩
      rw [hp2, hw]
      clear hw
      cases p2 with
      | false =>
        obtain rfl : g = false := by rw [← HG.out]; simp
        clear HG hp1 hp2 hp3 hp4
        go_wp2
        go_meet
        case rel => exact ⟨rfl, rfl⟩
      | true =>
        go_wp2_with fail
        refine (rnumber_any B W).mono ?_
        rintro e w1 ⟨rfl, hw⟩
        rw [hp3, hw]
        clear hw
        cases p3 with
        | false =>
          obtain rfl : g = false := by rw [← HG.out]; simp
          clear HG hp1 hp2 hp3 hp4
          go_wp2
          go_meet
          case rel => exact ⟨rfl, rfl⟩
        | true =>
          go_wp2_with fail
          refine (rnumber_any BN W).mono ?_
          rintro e w1 ⟨rfl, hw⟩
          rw [hp4, hw]
          clear hw
          cases p4 with
          | false =>
            obtain rfl : g = false := by rw [← HG.out]; simp
            clear HG hp1 hp2 hp3 hp4
            go_wp2
            go_meet
            case rel => exact ⟨rfl, rfl⟩
          | true =>
            by_cases z1 : A = 0
            · subst z1
              by_cases z2 : 0 < AN
              · obtain rfl : g = false := by rw [← HG.out]; simp [z2]
                clear HG hp1 hp2 hp3 hp4
                go_wp2
                go_meet
                case rel => exact ⟨rfl, rfl⟩
              · have z3 : decide (0 < AN) = false := decide_eq_false z2
                by_cases z4 : B = 0
                · subst z4
                  by_cases z5 : 0 < BN
                  · obtain rfl : g = false := by rw [← HG.out]; simp [z5]
                    clear HG hp1 hp2 hp3 hp4
                    go_wp2
                    go_meet
                    case rel => exact ⟨rfl, rfl⟩
                  · obtain rfl : g = true := by rw [← HG.out]; simp [z2, z5]
                    have z6 : decide (0 < BN) = false := decide_eq_false z5
                    clear HG hp1 hp2 hp3 hp4
                    go_wp2
                    go_meet
                    case rel => exact ⟨rfl, rfl⟩
                · obtain rfl : g = true := by rw [← HG.out]; simp [z2, z4]
                  have z6 : (B == 0) = false := by simpa using z4
                  clear HG hp1 hp2 hp3 hp4
                  go_wp2
                  go_meet
                  case rel => exact ⟨rfl, rfl⟩
            · have z3 : (A == 0) = false := by simpa using z1
              by_cases z4 : B = 0
              · subst z4
                by_cases z5 : 0 < BN
                · obtain rfl : g = false := by rw [← HG.out]; simp [z5]
                  clear HG hp1 hp2 hp3 hp4
                  go_wp2
                  go_meet
                  case rel => exact ⟨rfl, rfl⟩
                · obtain rfl : g = true := by rw [← HG.out]; simp [z1, z5]
                  have z6 : decide (0 < BN) = false := decide_eq_false z5
                  clear HG hp1 hp2 hp3 hp4
                  go_wp2
                  go_meet
                  case rel => exact ⟨rfl, rfl⟩
              · obtain rfl : g = true := by rw [← HG.out]; simp [z1, z4]
                have z6 : (B == 0) = false := by simpa using z4
                clear HG hp1 hp2 hp3 hp4
                go_wp2
                go_meet
                case rel => exact ⟨rfl, rfl⟩
  case rest =>
    obtain ⟨rfl, rfl⟩ := hcut
    cases g with
    | false =>
      have HE : Hid (r = 2) := (by have hg := HGG.out; show _ = _; rw [← HR.out]; simp [chkH, hg])
      clear HGG HR
      go_wp2
      go_ret
      exact ⟨ret_int HE.out.symm, hBl⟩
    | true =>
      have HG : Hid (rngB ⟨A, AN, B, BN, ls⟩ = true) := HGG.out
      clear HGG
      obtain ⟨fb, hfb⟩ : ∃ f, fldB ls = f := ⟨_, rfl⟩
      have HFB : Hid (fldB ls = fb) := hfb
      clear hfb
      go_wp2_with fail
      refine (rfields_f ⟨A, AN, B, BN, ls⟩ _ _ hv1 hl HTX.out fb HFB).mono ?_
      rintro e W4 ⟨rfl, hB4⟩
      have hB04 := hBl.trans (hB4.mono hBl.size)
      cases fb with
      | false =>
        have HE : Hid (r = 6) := (by
          have h1 := HG.out
          have h2 := HFB.out
          show _ = _
          rw [← HR.out]
          simp [chkH, h1, h2])
        clear HR HG HFB
        go_wp2
        go_ret
        exact ⟨ret_int HE.out.symm, hB04⟩
      | true =>
        have hxW : Hx W4 w.heap.size ⟨A, AN, B, BN, ls⟩ (.slice lo ls.length lc) := hx.low hB4
        have hv4 := HMk.keep hv1 hB4 (Nat.le_refl _)
        obtain ⟨RO, hO⟩ : ∃ RO, oldL ⟨A, AN, B, BN, ls⟩ = RO := ⟨_, rfl⟩
        obtain ⟨RN, hN⟩ : ∃ RN, newL ⟨A, AN, B, BN, ls⟩ = RN := ⟨_, rfl⟩
        have HO : Hid (oldL ⟨A, AN, B, BN, ls⟩ = RO) := hO
        have HN : Hid (newL ⟨A, AN, B, BN, ls⟩ = RN) := hN
        obtain ⟨ol, hol⟩ : ∃ n, RO.length = n := ⟨_, rfl⟩
        obtain ⟨nl, hnl⟩ : ∃ n, RN.length = n := ⟨_, rfl⟩
        have HE : Hid ((if AN ≠ (ol : Int) ∨ BN ≠ (nl : Int) then (120 : Int) else if ls.all (fun m => decide (m.sg = 32)) = true then 50 else 0) = r) := (by
          have h1 := HG.out
          have h2 := HFB.out
          show _ = _
          rw [← HR.out, ← hol, ← hnl, ← hO, ← hN]
          simp only [chkH, h1, h2, Bool.true_eq_false, if_false])
        have hxx : ∀ u : World, Low W4 u → Hx u w.heap.size ⟨A, AN, B, BN, ls⟩ (.slice lo ls.length lc) := fun u hu => hxW.low hu
        have hx4 : ∀ u : World, Low W4 u → u.cell? ⟨w.heap.size, 0, none⟩ = some (.int .i64 A) ∧ u.cell? ⟨w.heap.size, 1, none⟩ = some (.int .i64 AN) ∧ u.cell? ⟨w.heap.size, 2, none⟩ = some (.int .i64 B) ∧ u.cell? ⟨w.heap.size, 3, none⟩ = some (.int .i64 BN) ∧ u.cell? ⟨w.heap.size, 4, none⟩ = some (.slice lo ls.length lc) := fun u hu => (hxx u hu).cells
        clear hO hN HR HG HFB x0 x1 x2 x3 x4
        go_upto_region 5 with fail
        obtain ⟨cb, hcb⟩ : ∃ b, decide (AN ≠ (ol : Int) ∨ BN ≠ (nl : Int)) = b := ⟨_, rfl⟩
        have HCB : Hid (decide (AN ≠ (ol : Int) ∨ BN ≠ (nl : Int)) = cb) := hcb
        clear hcb
        go_cut [62] from 49 to 62 (fun c wz => c = .bool cb ∧ Low W4 wz)
        case first =>
          have hlow : Low W4 (W4.drewN 1) := Below.dN (Below.refl _ W4) 1
          by_cases z1 : AN = (ol : Int)
          · have hne : (AN != (ol : Int)) = false := by simpa using z1
            by_cases z2 : BN = (nl : Int)
            · have hne2 : (BN != (nl : Int)) = false := by simpa using z2
              obtain rfl : cb = false := by rw [← HCB.out]; simp [z1, z2]
              clear HCB z1 z2
              refine wp_region_noPanic ?_
              refine wp_region_held_drew (S := fun u => Low W4 u) (by kernel_rfl) hlow (fun hHeld => ?_)
              refine go_take 0 49 _ (.pointer (some ⟨w.heap.size, 1, none⟩)) rfl (by kernel_rfl) (by kernel_rfl) (by kernel_rfl) (by kernel_rfl) (fun _ _ _ h => h) (Or.inl ⟨by kernel_rfl, fun u hu => by kernel_rfl⟩) hHeld ?_
              simp only [Act.put, List.setIfInBounds_toArray, List.set_cons_zero, List.set_cons_succ]
              refine go_take 1 50 _ (.int .i64 AN) rfl (by kernel_rfl) (by kernel_rfl) (by kernel_rfl) (by kernel_rfl) (fun _ _ _ h => h) (Or.inl ⟨by kernel_rfl, fun u hu => load_int (hx4 u hu).2.1 (.tmp 49) (by kernel_rfl) (by kernel_rfl)⟩) hHeld ?_
              simp only [Act.put, List.setIfInBounds_toArray, List.set_cons_zero, List.set_cons_succ]
              refine go_take 2 51 _ (hkV ⟨A, AN, B, BN, ls⟩ (.slice lo ls.length lc)) rfl (by kernel_rfl) (by kernel_rfl) (by kernel_rfl) (by kernel_rfl) (fun _ _ _ h => h) (Or.inl ⟨by kernel_rfl, fun u hu => load_hk (hxx u hu) (.tmp 1) (by kernel_rfl) (by kernel_rfl)⟩) hHeld ?_
              simp only [Act.put, List.setIfInBounds_toArray, List.set_cons_zero, List.set_cons_succ]
              refine go_callE 3 52 _ rfl (by kernel_rfl) (by kernel_rfl) (by kernel_rfl) 134 (.func 134) #[.tmp 51] #[43] (by kernel_rfl) #[] (by kernel_rfl) #[hkV ⟨A, AN, B, BN, ls⟩ (.slice lo ls.length lc)] (by kernel_rfl) (enters_of Tryd.func134 (by kernel_rfl) rfl) _ (old_held hv4 hl HO hHeld) ?_
              rintro v5 w5 hu5 ⟨o5, c5, rfl⟩
              rw [hol]
              replace hHeld := hu5
              simp only [Act.put, List.setIfInBounds_toArray, List.set_cons_zero, List.set_cons_succ]
              refine go_take 4 53 _ (.int .i64 (ol : Int)) rfl (by kernel_rfl) (by kernel_rfl) (by kernel_rfl) (by kernel_rfl) (fun _ _ _ h => h) (Or.inl ⟨by kernel_rfl, fun u hu => by kernel_rfl⟩) hHeld ?_
              simp only [Act.put, List.setIfInBounds_toArray, List.set_cons_zero, List.set_cons_succ]
              refine go_take 5 54 _ (.bool (AN != (ol : Int))) rfl (by kernel_rfl) (by kernel_rfl) (by kernel_rfl) (by kernel_rfl) (fun _ _ _ h => h) (Or.inl ⟨by kernel_rfl, fun u hu => by kernel_rfl⟩) hHeld ?_
              simp only [Act.put, List.setIfInBounds_toArray, List.set_cons_zero, List.set_cons_succ]
              simp only [hne]
              refine go_take 6 55 _ (.bool false) rfl (by kernel_rfl) (by kernel_rfl) (by kernel_rfl) (by kernel_rfl) (fun _ _ _ h => h) (Or.inl ⟨by kernel_rfl, fun u hu => by kernel_rfl⟩) hHeld ?_
              simp only [Act.put, List.setIfInBounds_toArray, List.set_cons_zero, List.set_cons_succ]
              refine go_take 7 56 _ (.pointer (some ⟨w.heap.size, 3, none⟩)) rfl (by kernel_rfl) (by kernel_rfl) (by kernel_rfl) (by kernel_rfl) (fun _ _ _ h => h) (Or.inl ⟨by kernel_rfl, fun u hu => by kernel_rfl⟩) hHeld ?_
              simp only [Act.put, List.setIfInBounds_toArray, List.set_cons_zero, List.set_cons_succ]
              refine go_take 8 57 _ (.int .i64 BN) rfl (by kernel_rfl) (by kernel_rfl) (by kernel_rfl) (by kernel_rfl) (fun _ _ _ h => h) (Or.inl ⟨by kernel_rfl, fun u hu => load_int (hx4 u hu).2.2.2.1 (.tmp 56) (by kernel_rfl) (by kernel_rfl)⟩) hHeld ?_
              simp only [Act.put, List.setIfInBounds_toArray, List.set_cons_zero, List.set_cons_succ]
              refine go_take 9 58 _ (hkV ⟨A, AN, B, BN, ls⟩ (.slice lo ls.length lc)) rfl (by kernel_rfl) (by kernel_rfl) (by kernel_rfl) (by kernel_rfl) (fun _ _ _ h => h) (Or.inl ⟨by kernel_rfl, fun u hu => load_hk (hxx u hu) (.tmp 1) (by kernel_rfl) (by kernel_rfl)⟩) hHeld ?_
              simp only [Act.put, List.setIfInBounds_toArray, List.set_cons_zero, List.set_cons_succ]
              refine go_callE 10 59 _ rfl (by kernel_rfl) (by kernel_rfl) (by kernel_rfl) 135 (.func 135) #[.tmp 58] #[43] (by kernel_rfl) #[] (by kernel_rfl) #[hkV ⟨A, AN, B, BN, ls⟩ (.slice lo ls.length lc)] (by kernel_rfl) (enters_of Tryd.func135 (by kernel_rfl) rfl) _ (new_held hv4 hl HN hHeld) ?_
              rintro v6 w6 hu6 ⟨o6, c6, rfl⟩
              rw [hnl]
              replace hHeld := hu6
              simp only [Act.put, List.setIfInBounds_toArray, List.set_cons_zero, List.set_cons_succ]
              refine go_take 11 60 _ (.int .i64 (nl : Int)) rfl (by kernel_rfl) (by kernel_rfl) (by kernel_rfl) (by kernel_rfl) (fun _ _ _ h => h) (Or.inl ⟨by kernel_rfl, fun u hu => by kernel_rfl⟩) hHeld ?_
              simp only [Act.put, List.setIfInBounds_toArray, List.set_cons_zero, List.set_cons_succ]
              refine go_take 12 61 _ (.bool (BN != (nl : Int))) rfl (by kernel_rfl) (by kernel_rfl) (by kernel_rfl) (by kernel_rfl) (fun _ _ _ h => h) (Or.inl ⟨by kernel_rfl, fun u hu => by kernel_rfl⟩) hHeld ?_
              simp only [Act.put, List.setIfInBounds_toArray, List.set_cons_zero, List.set_cons_succ]
              simp only [hne2]
              refine go_take 13 62 _ (.bool false) rfl (by kernel_rfl) (by kernel_rfl) (by kernel_rfl) (by kernel_rfl) (fun _ _ _ h => h) (Or.inl ⟨by kernel_rfl, fun u hu => by kernel_rfl⟩) hHeld ?_
              simp only [Act.put, List.setIfInBounds_toArray, List.set_cons_zero, List.set_cons_succ]
              refine wpAnyH_done (by kernel_rfl) ?_ _
              refine NoPanic.normal ?_
              go_wp2_with fail
              go_meet
              case rel => exact ⟨rfl, hHeld⟩
            · have hne2 : (BN != (nl : Int)) = true := by simpa using z2
              obtain rfl : cb = true := by rw [← HCB.out]; simp [z2]
              clear HCB z1 z2
              refine wp_region_noPanic ?_
              refine wp_region_held_drew (S := fun u => Low W4 u) (by kernel_rfl) hlow (fun hHeld => ?_)
              refine go_take 0 49 _ (.pointer (some ⟨w.heap.size, 1, none⟩)) rfl (by kernel_rfl) (by kernel_rfl) (by kernel_rfl) (by kernel_rfl) (fun _ _ _ h => h) (Or.inl ⟨by kernel_rfl, fun u hu => by kernel_rfl⟩) hHeld ?_
              simp only [Act.put, List.setIfInBounds_toArray, List.set_cons_zero, List.set_cons_succ]
              refine go_take 1 50 _ (.int .i64 AN) rfl (by kernel_rfl) (by kernel_rfl) (by kernel_rfl) (by kernel_rfl) (fun _ _ _ h => h) (Or.inl ⟨by kernel_rfl, fun u hu => load_int (hx4 u hu).2.1 (.tmp 49) (by kernel_rfl) (by kernel_rfl)⟩) hHeld ?_
              simp only [Act.put, List.setIfInBounds_toArray, List.set_cons_zero, List.set_cons_succ]
              refine go_take 2 51 _ (hkV ⟨A, AN, B, BN, ls⟩ (.slice lo ls.length lc)) rfl (by kernel_rfl) (by kernel_rfl) (by kernel_rfl) (by kernel_rfl) (fun _ _ _ h => h) (Or.inl ⟨by kernel_rfl, fun u hu => load_hk (hxx u hu) (.tmp 1) (by kernel_rfl) (by kernel_rfl)⟩) hHeld ?_
              simp only [Act.put, List.setIfInBounds_toArray, List.set_cons_zero, List.set_cons_succ]
              refine go_callE 3 52 _ rfl (by kernel_rfl) (by kernel_rfl) (by kernel_rfl) 134 (.func 134) #[.tmp 51] #[43] (by kernel_rfl) #[] (by kernel_rfl) #[hkV ⟨A, AN, B, BN, ls⟩ (.slice lo ls.length lc)] (by kernel_rfl) (enters_of Tryd.func134 (by kernel_rfl) rfl) _ (old_held hv4 hl HO hHeld) ?_
              rintro v5 w5 hu5 ⟨o5, c5, rfl⟩
              rw [hol]
              replace hHeld := hu5
              simp only [Act.put, List.setIfInBounds_toArray, List.set_cons_zero, List.set_cons_succ]
              refine go_take 4 53 _ (.int .i64 (ol : Int)) rfl (by kernel_rfl) (by kernel_rfl) (by kernel_rfl) (by kernel_rfl) (fun _ _ _ h => h) (Or.inl ⟨by kernel_rfl, fun u hu => by kernel_rfl⟩) hHeld ?_
              simp only [Act.put, List.setIfInBounds_toArray, List.set_cons_zero, List.set_cons_succ]
              refine go_take 5 54 _ (.bool (AN != (ol : Int))) rfl (by kernel_rfl) (by kernel_rfl) (by kernel_rfl) (by kernel_rfl) (fun _ _ _ h => h) (Or.inl ⟨by kernel_rfl, fun u hu => by kernel_rfl⟩) hHeld ?_
              simp only [Act.put, List.setIfInBounds_toArray, List.set_cons_zero, List.set_cons_succ]
              simp only [hne]
              refine go_take 6 55 _ (.bool false) rfl (by kernel_rfl) (by kernel_rfl) (by kernel_rfl) (by kernel_rfl) (fun _ _ _ h => h) (Or.inl ⟨by kernel_rfl, fun u hu => by kernel_rfl⟩) hHeld ?_
              simp only [Act.put, List.setIfInBounds_toArray, List.set_cons_zero, List.set_cons_succ]
              refine go_take 7 56 _ (.pointer (some ⟨w.heap.size, 3, none⟩)) rfl (by kernel_rfl) (by kernel_rfl) (by kernel_rfl) (by kernel_rfl) (fun _ _ _ h => h) (Or.inl ⟨by kernel_rfl, fun u hu => by kernel_rfl⟩) hHeld ?_
              simp only [Act.put, List.setIfInBounds_toArray, List.set_cons_zero, List.set_cons_succ]
              refine go_take 8 57 _ (.int .i64 BN) rfl (by kernel_rfl) (by kernel_rfl) (by kernel_rfl) (by kernel_rfl) (fun _ _ _ h => h) (Or.inl ⟨by kernel_rfl, fun u hu => load_int (hx4 u hu).2.2.2.1 (.tmp 56) (by kernel_rfl) (by kernel_rfl)⟩) hHeld ?_
              simp only [Act.put, List.setIfInBounds_toArray, List.set_cons_zero, List.set_cons_succ]
              refine go_take 9 58 _ (hkV ⟨A, AN, B, BN, ls⟩ (.slice lo ls.length lc)) rfl (by kernel_rfl) (by kernel_rfl) (by kernel_rfl) (by kernel_rfl) (fun _ _ _ h => h) (Or.inl ⟨by kernel_rfl, fun u hu => load_hk (hxx u hu) (.tmp 1) (by kernel_rfl) (by kernel_rfl)⟩) hHeld ?_
              simp only [Act.put, List.setIfInBounds_toArray, List.set_cons_zero, List.set_cons_succ]
              refine go_callE 10 59 _ rfl (by kernel_rfl) (by kernel_rfl) (by kernel_rfl) 135 (.func 135) #[.tmp 58] #[43] (by kernel_rfl) #[] (by kernel_rfl) #[hkV ⟨A, AN, B, BN, ls⟩ (.slice lo ls.length lc)] (by kernel_rfl) (enters_of Tryd.func135 (by kernel_rfl) rfl) _ (new_held hv4 hl HN hHeld) ?_
              rintro v6 w6 hu6 ⟨o6, c6, rfl⟩
              rw [hnl]
              replace hHeld := hu6
              simp only [Act.put, List.setIfInBounds_toArray, List.set_cons_zero, List.set_cons_succ]
              refine go_take 11 60 _ (.int .i64 (nl : Int)) rfl (by kernel_rfl) (by kernel_rfl) (by kernel_rfl) (by kernel_rfl) (fun _ _ _ h => h) (Or.inl ⟨by kernel_rfl, fun u hu => by kernel_rfl⟩) hHeld ?_
              simp only [Act.put, List.setIfInBounds_toArray, List.set_cons_zero, List.set_cons_succ]
              refine go_take 12 61 _ (.bool (BN != (nl : Int))) rfl (by kernel_rfl) (by kernel_rfl) (by kernel_rfl) (by kernel_rfl) (fun _ _ _ h => h) (Or.inl ⟨by kernel_rfl, fun u hu => by kernel_rfl⟩) hHeld ?_
              simp only [Act.put, List.setIfInBounds_toArray, List.set_cons_zero, List.set_cons_succ]
              simp only [hne2]
              refine go_take 13 62 _ (.bool true) rfl (by kernel_rfl) (by kernel_rfl) (by kernel_rfl) (by kernel_rfl) (fun _ _ _ h => h) (Or.inl ⟨by kernel_rfl, fun u hu => by kernel_rfl⟩) hHeld ?_
              simp only [Act.put, List.setIfInBounds_toArray, List.set_cons_zero, List.set_cons_succ]
              refine wpAnyH_done (by kernel_rfl) ?_ _
              refine NoPanic.normal ?_
              go_wp2_with fail
              go_meet
              case rel => exact ⟨rfl, hHeld⟩
          · have hne : (AN != (ol : Int)) = true := by simpa using z1
            obtain rfl : cb = true := by rw [← HCB.out]; simp [z1]
            clear HCB z1
            refine wp_region_noPanic ?_
            refine wp_region_held_drew (S := fun u => Low W4 u) (by kernel_rfl) hlow (fun hHeld => ?_)
            refine go_take 0 49 _ (.pointer (some ⟨w.heap.size, 1, none⟩)) rfl (by kernel_rfl) (by kernel_rfl) (by kernel_rfl) (by kernel_rfl) (fun _ _ _ h => h) (Or.inl ⟨by kernel_rfl, fun u hu => by kernel_rfl⟩) hHeld ?_
            simp only [Act.put, List.setIfInBounds_toArray, List.set_cons_zero, List.set_cons_succ]
            refine go_take 1 50 _ (.int .i64 AN) rfl (by kernel_rfl) (by kernel_rfl) (by kernel_rfl) (by kernel_rfl) (fun _ _ _ h => h) (Or.inl ⟨by kernel_rfl, fun u hu => load_int (hx4 u hu).2.1 (.tmp 49) (by kernel_rfl) (by kernel_rfl)⟩) hHeld ?_
            simp only [Act.put, List.setIfInBounds_toArray, List.set_cons_zero, List.set_cons_succ]
            refine go_take 2 51 _ (hkV ⟨A, AN, B, BN, ls⟩ (.slice lo ls.length lc)) rfl (by kernel_rfl) (by kernel_rfl) (by kernel_rfl) (by kernel_rfl) (fun _ _ _ h => h) (Or.inl ⟨by kernel_rfl, fun u hu => load_hk (hxx u hu) (.tmp 1) (by kernel_rfl) (by kernel_rfl)⟩) hHeld ?_
            simp only [Act.put, List.setIfInBounds_toArray, List.set_cons_zero, List.set_cons_succ]
            refine go_callE 3 52 _ rfl (by kernel_rfl) (by kernel_rfl) (by kernel_rfl) 134 (.func 134) #[.tmp 51] #[43] (by kernel_rfl) #[] (by kernel_rfl) #[hkV ⟨A, AN, B, BN, ls⟩ (.slice lo ls.length lc)] (by kernel_rfl) (enters_of Tryd.func134 (by kernel_rfl) rfl) _ (old_held hv4 hl HO hHeld) ?_
            rintro v5 w5 hu5 ⟨o5, c5, rfl⟩
            rw [hol]
            replace hHeld := hu5
            simp only [Act.put, List.setIfInBounds_toArray, List.set_cons_zero, List.set_cons_succ]
            refine go_take 4 53 _ (.int .i64 (ol : Int)) rfl (by kernel_rfl) (by kernel_rfl) (by kernel_rfl) (by kernel_rfl) (fun _ _ _ h => h) (Or.inl ⟨by kernel_rfl, fun u hu => by kernel_rfl⟩) hHeld ?_
            simp only [Act.put, List.setIfInBounds_toArray, List.set_cons_zero, List.set_cons_succ]
            refine go_take 5 54 _ (.bool (AN != (ol : Int))) rfl (by kernel_rfl) (by kernel_rfl) (by kernel_rfl) (by kernel_rfl) (fun _ _ _ h => h) (Or.inl ⟨by kernel_rfl, fun u hu => by kernel_rfl⟩) hHeld ?_
            simp only [Act.put, List.setIfInBounds_toArray, List.set_cons_zero, List.set_cons_succ]
            simp only [hne]
            refine go_take 6 55 _ (.bool true) rfl (by kernel_rfl) (by kernel_rfl) (by kernel_rfl) (by kernel_rfl) (fun _ _ _ h => h) (Or.inl ⟨by kernel_rfl, fun u hu => by kernel_rfl⟩) hHeld ?_
            simp only [Act.put, List.setIfInBounds_toArray, List.set_cons_zero, List.set_cons_succ]
            refine go_take 7 56 _ undef rfl (by kernel_rfl) (by kernel_rfl) (by kernel_rfl) (by kernel_rfl) (fun _ _ _ h => h) (Or.inr ⟨by kernel_rfl, rfl⟩) hHeld ?_
            simp only [Act.put, List.setIfInBounds_toArray, List.set_cons_zero, List.set_cons_succ]
            refine go_take 8 57 _ undef rfl (by kernel_rfl) (by kernel_rfl) (by kernel_rfl) (by kernel_rfl) (fun _ _ _ h => h) (Or.inr ⟨by kernel_rfl, rfl⟩) hHeld ?_
            simp only [Act.put, List.setIfInBounds_toArray, List.set_cons_zero, List.set_cons_succ]
            refine go_take 9 58 _ undef rfl (by kernel_rfl) (by kernel_rfl) (by kernel_rfl) (by kernel_rfl) (fun _ _ _ h => h) (Or.inr ⟨by kernel_rfl, rfl⟩) hHeld ?_
            simp only [Act.put, List.setIfInBounds_toArray, List.set_cons_zero, List.set_cons_succ]
            refine go_none 10 59 _ rfl (by kernel_rfl) (by kernel_rfl) (by kernel_rfl) hHeld ?_
            simp only [Act.put, List.setIfInBounds_toArray, List.set_cons_zero, List.set_cons_succ]
            refine go_take 11 60 _ undef rfl (by kernel_rfl) (by kernel_rfl) (by kernel_rfl) (by kernel_rfl) (fun _ _ _ h => h) (Or.inr ⟨by kernel_rfl, rfl⟩) hHeld ?_
            simp only [Act.put, List.setIfInBounds_toArray, List.set_cons_zero, List.set_cons_succ]
            refine go_take 12 61 _ undef rfl (by kernel_rfl) (by kernel_rfl) (by kernel_rfl) (by kernel_rfl) (fun _ _ _ h => h) (Or.inr ⟨by kernel_rfl, rfl⟩) hHeld ?_
            simp only [Act.put, List.setIfInBounds_toArray, List.set_cons_zero, List.set_cons_succ]
            refine go_take 13 62 _ (.bool true) rfl (by kernel_rfl) (by kernel_rfl) (by kernel_rfl) (by kernel_rfl) (fun _ _ _ h => h) (Or.inl ⟨by kernel_rfl, fun u hu => by kernel_rfl⟩) hHeld ?_
            simp only [Act.put, List.setIfInBounds_toArray, List.set_cons_zero, List.set_cons_succ]
            refine wpAnyH_done (by kernel_rfl) ?_ _
            refine NoPanic.normal ?_
            go_wp2_with fail
            go_meet
            case rel => exact ⟨rfl, hHeld⟩
        case rest =>
          obtain ⟨rfl, hlow⟩ := hcut
          obtain ⟨x0, x1, x2, x3, x4⟩ := hx4 _ hlow
          have hv5 := HMk.keep hv4 hlow (Nat.le_refl _)
          have hBf := hB04.trans (hlow.mono hB04.size)
          have HAB := HCB
          cases cb with
          | true =>
            have HE2 : Hid (r = 120) := (by
              show _ = _
              rw [← HE.out, if_pos (of_decide_eq_true HCB.out)])
            clear HE HCB HAB
            go_wp2
            go_ret
            exact ⟨ret_int HE2.out.symm, hBf⟩
          | false =>
            have HE2 : Hid ((if ls.all (fun m => decide (m.sg = 32)) = true then (50 : Int) else 0) = r) := (by
              show _ = _
              rw [← HE.out, if_neg (of_decide_eq_false HCB.out)])
            clear HE HCB HAB hx4 hxx
            go_wp2
            generalize hwc : wc = W5 at *
            clear hwc
            go_loopw [3] (fun iv wr => ∃ (k : Nat), k ≤ ls.length ∧ iv = .int .i64 (k : Int) ∧ wr = W5 ∧ Hid ((if (ls.drop k).all (fun m => decide (m.sg = 32)) = true then (50 : Int) else 0) = r)) (fun iv _ => ls.length - (intOf iv).toNat)
            case atStart => exact ⟨0, Nat.zero_le _, by go_num, rfl, HE2⟩
            case round =>
              obtain ⟨k, hk, rfl, rfl, HI⟩ := hrel
              by_cases hlt : k < ls.length
              · obtain ⟨b, off, rfl, hb, hc⟩ := HMk.at hv5 (by omega)
                obtain ⟨c0, c1⟩ := hc k hlt
                obtain ⟨m, hm⟩ : ∃ m, ls[k] = m := ⟨_, rfl⟩
                rw [hm] at c0 c1
                have HI2 : Hid ((if (decide (m.sg = 32) && (ls.drop (k + 1)).all (fun m => decide (m.sg = 32))) = true then (50 : Int) else 0) = r) := (by
                  show _ = _
                  rw [← HI.out, List.drop_eq_getElem_cons hlt, hm]
                  rfl)
                obtain ⟨s, tx⟩ := m
                dsimp only at c0 c1 HI2
                clear HI hm hc c1
                have i1 : 0 ≤ (k : Int) := by omega
                have i2 : (k : Int) < (ls.length : Int) := by omega
                by_cases h0 : s = 32
                · subst h0
                  have HI3 : Hid ((if (ls.drop (k + 1)).all (fun m => decide (m.sg = 32)) = true then (50 : Int) else 0) = r) := (by
                    show _ = _
                    rw [← HI2.out]
                    rfl)
                  clear HI2 HE2
                  go_wp2
                  exact ⟨⟨k + 1, by omega, by go_num, trivial, HI3⟩, by simp [intOf]; omega⟩
                · have e0 : (s != 32) = true := by simpa using h0
                  have HI3 : Hid (r = 0) := (by
                    show _ = _
                    rw [← HI2.out]
                    simp [h0])
                  clear HI2 HE2
                  go_wp2
                  go_ret
                  exact ⟨ret_int HI3.out.symm, hBf⟩
              · have HI3 : Hid (r = 50) := (by
                  show _ = _
                  rw [← HI.out, List.drop_of_length_le (by omega)]
                  rfl)
                have hend : decide ((k : Int) < (ls.length : Int)) = false := decide_eq_false (by omega)
                clear HI HE2
                go_wp2
                go_ret
                exact ⟨ret_int HI3.out.symm, hBf⟩
end Go.Proofs.YtgiojkhmkeocfaaDoor

/- The reference's Order of layer 11, walked. -/
namespace Go.Proofs.YtgiojkhmkeocfaaDoor
open Go.RowKit

/-- hunks of lengths that can be gone through -/
def HOk (p : List (Hk × Value)) : Prop := p.length ≤ 1099511627776 ∧ ∀ x ∈ p, x.1.ls.length ≤ 1099511627776 ∧ ∀ m ∈ x.1.ls, m.tx.length ≤ 1099511627776
/-- a hunk of a row, read -/
theorem HHp.take {w W : World} {b off n c : Nat} {p : List (Hk × Value)} (h : HHp w (.slice (some ⟨b, off, none⟩) n c) p) (hB : Below w.heap.size w W) (k : Nat) (hk : k < p.length) {x : Hk} {y : Value} (hx : p[k] = (x, y)) : (W.cell? ⟨b, off + k * 5, none⟩ = some (.int .i64 x.A) ∧ W.cell? ⟨b, off + k * 5 + 1, none⟩ = some (.int .i64 x.AN) ∧ W.cell? ⟨b, off + k * 5 + 2, none⟩ = some (.int .i64 x.B) ∧ W.cell? ⟨b, off + k * 5 + 3, none⟩ = some (.int .i64 x.BN) ∧ W.cell? ⟨b, off + k * 5 + 4, none⟩ = some y) ∧ HMk W y x.ls := by
  have h2 := h.keep hB (Nat.le_refl _)
  obtain ⟨b', off', e, _, hc⟩ := h2.at (by omega)
  cases e
  have := hc k hk
  rw [hx] at this
  refine ⟨this, ?_⟩
  have hi := h2.ins p[k] (List.getElem_mem hk)
  rw [hx] at hi
  exact hi
theorem errs_drop {l : List Hk} {k : Nat} (hk : k < l.length) : errs (l.drop k) = if chkH l[k] ≠ 0 then chkH l[k] else errs (l.drop (k + 1)) := by
  rw [List.drop_eq_getElem_cons hk]
  rfl
end Go.Proofs.YtgiojkhmkeocfaaDoor

/- The reference's Same, SameHunks of layer 11, walked: hunks that are the same. -/
namespace Go.Proofs.YtgiojkhmkeocfaaDoor
open Go.RowKit

end Go.Proofs.YtgiojkhmkeocfaaDoor

/- The reference's SameHunks of layer 11, walked: rows of hunks that are the same; steps by hand. -/
namespace Go.Proofs.YtgiojkhmkeocfaaDoor
open Go.RowKit

theorem exec_ixH {u : World} {b off n c i : Nat} (hi : i < n) {op : Oper} (x y : Operand) (ho : op.op = .indexAddr 29 x y) {ev : Operand → Value} (hx : ev x = .slice (some ⟨b, off, none⟩) n c) (hy : ev y = .int .i64 (i : Int)) :
    (execOp ev op).run Tryd.prog u = .ok (.value (.pointer (some ⟨b, off + i * 5, none⟩))) u := by
  have i1 : 0 ≤ (i : Int) := by omega
  have i2 : (i : Int) < (n : Int) := by omega
  simp only [execOp, ho, hx, hy]
  go_simp
/-- the cells of a hunk in a row -/
def HkAt (u : World) (b o : Nat) (x : Hk) (y : Value) : Prop := u.cell? ⟨b, o, none⟩ = some (.int .i64 x.A) ∧ u.cell? ⟨b, o + 1, none⟩ = some (.int .i64 x.AN) ∧ u.cell? ⟨b, o + 2, none⟩ = some (.int .i64 x.B) ∧ u.cell? ⟨b, o + 3, none⟩ = some (.int .i64 x.BN) ∧ u.cell? ⟨b, o + 4, none⟩ = some y
theorem HkAt.low {u u' : World} {b o : Nat} {x : Hk} {y : Value} (h : HkAt u b o x y) (hB : Low u u') : HkAt u' b o x y := by
  have key : ∀ (q : Addr) (z : Value), u.cell? q = some z → u'.cell? q = some z := fun q z hz => (World.cell?_of_block (w := u) (Below.block hB _ (World.block_lt_of_cell? _ _ hz))).trans hz
  exact ⟨key _ _ h.1, key _ _ h.2.1, key _ _ h.2.2.1, key _ _ h.2.2.2.1, key _ _ h.2.2.2.2⟩
theorem load_hkR {u : World} {b o : Nat} {h : Hk} {yo : Option Addr} {n yc : Nat} (q : HkAt u b o h (.slice yo n yc)) {op : Oper} (x : Operand) (ho : op.op = .load 43 x) {ev : Operand → Value} (hx : ev x = .pointer (some ⟨b, o, none⟩)) :
    (execOp ev op).run Tryd.prog u = .ok (.value (hkV h (.slice yo n yc))) u := by
  obtain ⟨d0, d1, d2, d3, d4⟩ := q
  unfold hkV
  simp only [execOp, ho, hx]
  go_simp
end Go.Proofs.YtgiojkhmkeocfaaDoor

/- A row of numbers of one's own, at a known block: what is kept. -/
namespace Go.Proofs.YtgiojkhmkeocfaaDoor
open Go.RowKit

/-- the state of the walk -/
structure Ls (w : World) (g n : Nat) (Z : List Int) (u : World) : Prop where
  low : Below w.heap.size w u
  own : u.ownsRow w.heap.size 3 1 (.slice (some ⟨g, 0, none⟩) n n) n (icells Z)
theorem Ls.drewN {w u : World} {g n : Nat} {Z : List Int} (h : Ls w g n Z u) (k : Nat) : Ls w g n Z (u.drewN k) := ⟨Below.dN h.low k, h.own⟩
theorem Ls.keep {w u u' : World} {g n : Nat} {Z : List Int} (h : Ls w g n Z u) (hb : Below u.heap.size u u') : Ls w g n Z u' := ⟨h.low.trans (hb.mono h.low.size), owns_keep h.own hb⟩
theorem Ls.len {w u : World} {g n : Nat} {Z : List Int} (h : Ls w g n Z u) : Z.length = n := by
  have := h.own.1
  rw [icells_length, Nat.mul_one] at this
  exact this
theorem Ls.at {w u : World} {g n : Nat} {Z : List Int} (h : Ls w g n Z u) {k : Nat} {z : Int} (hz : Z[k]? = some z) : u.cell? ⟨g, k, none⟩ = some (.int .i64 z) := by
  have hl := (List.getElem?_eq_some_iff.1 hz).1
  rw [h.len] at hl
  rw [h.own.cellAt k (by omega)]
  simp [icells, hz]
theorem grown_set (u : World) (g j : Nat) (v : Value) : u.grownBy (u.setCell ⟨g, j, none⟩ v) (some g) := ⟨rfl, rfl, rfl, (KeepsWalks.setCell u _ v).size, fun k _ hk => Below.heap_setCell _ _ _ k (fun e => hk (by rw [e]))⟩
end Go.Proofs.YtgiojkhmkeocfaaDoor

/- Hunks of one's own: a row of them, each with a row of lines of one's own; the reference's Copy, walked. -/
namespace Go.Proofs.YtgiojkhmkeocfaaDoor
open Go.RowKit

theorem own_lt {u : World} {base : Nat} {e : TypeId} {s : Nat} {v : Value} {n : Nat} {xs : List Value} (h : u.ownsRow base e s v n xs) {g : Nat} (hg : v.ownBlock = some g) : g < u.heap.size := by
  rcases h.2 with ⟨rfl, _⟩ | ⟨b, cap, cur, rfl, _, hb, _⟩
  · cases hg
  · simp [Value.ownBlock] at hg
    subst hg
    exact (Array.getElem?_eq_some_iff.1 hb).1
theorem own_ne {u : World} {base base' : Nat} {e e' : TypeId} {s s' : Nat} {v v' : Value} {n n' : Nat} {xs xs' : List Value} (h : u.ownsRow base e s v n xs) (h' : u.ownsRow base' e' s' v' n' xs') (he : e ≠ e') {g : Nat} (hg : v.ownBlock = some g) : v'.ownBlock ≠ some g := by
  intro hg'
  rcases h.2 with ⟨rfl, _⟩ | ⟨b, cap, cur, rfl, _, hb, _⟩
  · cases hg
  · rcases h'.2 with ⟨rfl, _⟩ | ⟨b', cap', cur', rfl, _, hb', _⟩
    · cases hg'
    · simp [Value.ownBlock] at hg hg'
      subst hg hg'
      rw [hb] at hb'
      simp at hb'
      exact he hb'.2
/-- a row of hunks of one's own -/
structure Hs (w : World) (ov : Value) (P : List (Hk × Value)) (u : World) : Prop where
  low : Below w.heap.size w u
  own : u.ownsRow w.heap.size 43 5 ov P.length (hkcells P)
  ins : ∀ x ∈ P, u.ownsRow w.heap.size 91 2 x.2 x.1.ls.length (mkcells x.1.ls)
theorem Hs.nil (w : World) : Hs w (.slice none 0 0) [] w := ⟨Below.refl _ _, hnil_row _ _ _ _, fun _ h => by cases h⟩
theorem Hs.alloc {w : World} {ov : Value} {P : List (Hk × Value)} {u : World} (h : Hs w ov P u) (o : Obj) : Hs w ov P (u.alloc o) := ⟨h.low.alloc h.low.size o, h.own.alloc o, fun x hx => (h.ins x hx).alloc o⟩
theorem Hs.drewN {w : World} {ov : Value} {P : List (Hk × Value)} {u : World} (h : Hs w ov P u) (n : Nat) : Hs w ov P (u.drewN n) := ⟨Below.dN h.low n, h.own, h.ins⟩
/-- what is written lies in a block that is none of theirs -/
theorem Hs.grown {w : World} {ov : Value} {P : List (Hk × Value)} {u u' : World} (h : Hs w ov P u) {g : Option Nat} (hg : u.grownBy u' g) (hb : ∀ k, g = some k → w.heap.size ≤ k) (h1 : ∀ k, g = some k → ov.ownBlock ≠ some k) (h2 : ∀ x ∈ P, ∀ k, g = some k → x.2.ownBlock ≠ some k) : Hs w ov P u' := by
  have key : ∀ {e : TypeId} {s : Nat} {v : Value} {n : Nat} {xs : List Value}, u.ownsRow w.heap.size e s v n xs → (∀ k, g = some k → v.ownBlock ≠ some k) → u'.ownsRow w.heap.size e s v n xs := by
    intro e s v n xs ho hne
    refine ⟨ho.1, ?_⟩
    rcases ho.2 with q | ⟨b, cap, cur, rfl, q2, q3, q4⟩
    · exact .inl q
    · refine .inr ⟨b, cap, cur, rfl, q2, ?_, q4⟩
      rw [hg.block b (Array.getElem?_eq_some_iff.1 q3).1 (fun e => hne b e.symm rfl)]
      exact q3
  exact ⟨h.low.grown hg h.low.size (fun k hk => hb k hk), key h.own h1, fun x hx => key (h.ins x hx) (h2 x hx)⟩
theorem Hs.lt {w : World} {ov : Value} {P : List (Hk × Value)} {u : World} (h : Hs w ov P u) : (∀ k, ov.ownBlock = some k → k < u.heap.size) ∧ ∀ x ∈ P, ∀ k, x.2.ownBlock = some k → k < u.heap.size := ⟨fun _ hk => own_lt h.own hk, fun x hx _ hk => own_lt (h.ins x hx) hk⟩
/-- one that is new, a box or a row, is none of theirs -/
theorem Hs.fresh {w : World} {ov : Value} {P : List (Hk × Value)} {u u1 u' : World} (h : Hs w ov P u) (h1 : Hs w ov P u1) {k : Nat} (hk : u.heap.size ≤ k) (hg : u1.grownBy u' (some k)) : Hs w ov P u' := by
  have hl := h.lt
  have hs := h.low.size
  refine h1.grown hg (fun j hj => by cases hj; omega) (fun j hj => by cases hj; intro e; have := hl.1 _ e; omega) (fun x hx j hj => by cases hj; intro e; have := hl.2 x hx _ e; omega)
/-- what it holds -/
theorem Hs.holds {w : World} {ov : Value} {P : List (Hk × Value)} {u : World} (h : Hs w ov P u) : HHp u ov P := ⟨holds_of h.own, fun x hx => holds_of (h.ins x hx)⟩
/-- a hunk more -/
theorem Hs.more {w : World} {ov : Value} {P : List (Hk × Value)} {u u' : World} (h : Hs w ov P u) {x : Hk} {y ov' : Value} (hy : u.ownsRow w.heap.size 91 2 y x.ls.length (mkcells x.ls)) (hg : u.grownBy u' ov.ownBlock) (ho : u'.ownsRow w.heap.size 43 5 ov' (P.length + 1) (hkcells P ++ hkC x y)) : Hs w ov' (P ++ [(x, y)]) u' := by
  have key : ∀ {v : Value} {n : Nat} {xs : List Value}, u.ownsRow w.heap.size 91 2 v n xs → u'.ownsRow w.heap.size 91 2 v n xs := by
    intro v n xs hv
    refine ⟨hv.1, ?_⟩
    rcases hv.2 with q | ⟨b, cap, cur, rfl, q2, q3, q4⟩
    · exact .inl q
    · refine .inr ⟨b, cap, cur, rfl, q2, ?_, q4⟩
      rw [hg.block b (Array.getElem?_eq_some_iff.1 q3).1 (fun e => own_ne h.own hv (by decide) e.symm rfl)]
      exact q3
  refine ⟨h.low.grown hg h.low.size (fun j hj => owns_ge h.own hj), ?_, fun z hz => ?_⟩
  · rw [hkcells_append, List.length_append]
    have e : hkcells [(x, y)] = hkC x y := by simp [hkcells]
    rw [e]
    exact ho
  · rcases List.mem_append.1 hz with hz | hz
    · exact key (h.ins z hz)
    · rw [List.mem_singleton.1 hz]
      exact key hy
/-- one hunk, as a new row of one -/
theorem one_row (w : World) (x : Hk) (y : Value) : Holds (w.alloc (hkO x y)) (.slice (some ⟨w.heap.size, 0, none⟩) 1 1) 1 (hkC x y) := new_holds w #[.int .i64 x.A, .int .i64 x.AN, .int .i64 x.B, .int .i64 x.BN, y] 43 1 1 (by decide)
theorem hkC_one (x : Hk) {o : Option Addr} {n c : Nat} : ∀ u ∈ hkC x (.slice o n c), u.oneCell' = true := by
  intro u hu
  simp only [hkC, List.mem_cons, List.not_mem_nil, or_false] at hu
  rcases hu with rfl | rfl | rfl | rfl | rfl <;> rfl
theorem Hx.setl {u : World} {b : Nat} {h : Hk} {v : Value} (q : Hx u b h v) (z : Value) : Hx (u.setCell ⟨b, 4, none⟩ z) b h z := heap_setCell_same u b 4 _ _ z q

set_option maxRecDepth 10000 in
set_option maxHeartbeats 4000000 in
theorem rCopy_f (p : List (Hk × Value)) (v : Value) (w : World) (hv : HHp w v p) (hok : HOk p) : Calls Tryd.prog 50 #[v] w fun e w' => ∃ v' P, e = .returned v' ∧ Hs w v' P w' ∧ P.map (·.1) = p.map (·.1) := by
  obtain ⟨vo, vc, rfl⟩ := Holds.form hv.row
  have hpl : p.length ≤ 1099511627776 := hok.1
  have HOK : Hid (HOk p) := hok
  clear hok
  go_enter Tryd.func50, Tryd.ntmps50
  go_wp2
  go_loopw [3, 4] (fun ov iv wr => ∃ (k : Nat) (P : List (Hk × Value)), k ≤ p.length ∧ iv = .int .i64 (k : Int) ∧ (∃ oo oc, ov = .slice oo k oc) ∧ Hs w ov P wr ∧ Hid (P.map (·.1) = (p.take k).map (·.1)) ∧ Hid (P.length = k)) (fun _ iv _ => p.length - (intOf iv).toNat)
  case atStart => exact ⟨0, [], Nat.zero_le _, by go_num, ⟨_, _, rfl⟩, Hs.nil w, rfl, rfl⟩
  case round =>
    obtain ⟨k, P, hk, rfl, ⟨oo, oc, rfl⟩, hS, HP, HPL⟩ := hrel
    by_cases hlt : k < p.length
    · obtain ⟨b, off, rfl, hb, _⟩ := hv.at (by omega)
      obtain ⟨x, y, hxy⟩ : ∃ x y, p[k] = (x, y) := ⟨_, _, rfl⟩
      obtain ⟨⟨c0, c1, c2, c3, c4⟩, hm⟩ := hv.take hS.low k hlt hxy
      have hbd := (HOK.out.2 _ (List.getElem_mem hlt)).1
      rw [hxy] at hbd
      dsimp only at hbd
      obtain ⟨yo, yc, rfl⟩ := hm.form
      have i1 : 0 ≤ (k : Int) := by omega
      have i2 : (k : Int) < (p.length : Int) := by omega
      have hxb := Hx.new wr x (.slice yo x.ls.length yc)
      have hB1 : Below wr.heap.size wr (wr.alloc (hkO x (.slice yo x.ls.length yc))) := (Below.refl _ wr).alloc (Nat.le_refl _) _
      have hS1 := hS.alloc (hkO x (.slice yo x.ls.length yc))
      have hm1 := HMk.keep hm hB1 (Nat.le_refl _)
      have hsz1 : (wr.alloc (hkO x (.slice yo x.ls.length yc))).heap.size = wr.heap.size + 1 := by simp
      have hW1 : wr.alloc (Obj.cells #[Value.int IntKind.i64 x.A, Value.int IntKind.i64 x.AN, Value.int IntKind.i64 x.B, Value.int IntKind.i64 x.BN, .slice yo x.ls.length yc] 43) = wr.alloc (hkO x (.slice yo x.ls.length yc)) := rfl
      go_upto_region 6 with fail
      generalize wr.alloc (hkO x (.slice yo x.ls.length yc)) = W1 at *
      clear hW1
      obtain ⟨x0, x1, x2, x3, x4⟩ := hxb.cells
      have hB2 : Below W1.heap.size W1 (W1.alloc (.cells #[] 91)) := (Below.refl _ W1).alloc (Nat.le_refl _) _
      have hxb2 := hxb.low hB2
      have hm2 := HMk.keep hm1 hB2 (Nat.le_refl _)
      have hS2 := hS1.alloc (.cells #[] 91)
      have hnil := nil_row_new (e := 91) (s := 2) W1 w.heap.size W1.heap.size rfl (by have := hS1.low.size; exact this)
      obtain ⟨y0, y1, y2, y3, y4⟩ := hxb2.cells
      have hlow1 := hS1.low.size
      have hsW2 : (W1.alloc (.cells #[] 91)).heap.size = W1.heap.size + 1 := by simp
      have HSW2 : Hid ((W1.alloc (.cells #[] 91)).heap.size = W1.heap.size + 1) := hsW2
      have HSZ1 : Hid (W1.heap.size = wr.heap.size + 1) := hsz1
      clear hsW2 hsz1
      go_wp2_with (at_builtin; refine wpList_append_w _ (by kernel_rfl) (.tmp 16) (.tmp 18) 41 91 (.agg #[.int .u8 0, .string ⟨#[]⟩]) 2 24 rfl Tryd.underlying41 infoMk rfl (by decide) (by decide) w.heap.size _ _ _ rfl hnil _ x.ls.length (mkcells x.ls) rfl hm2 (mkcells_length _) (mkcells_one _) (by omega) (by have := HSW2.out; omega) ?_)
      intro v3 W3 hown3 hg3 hob3
      obtain ⟨ro, rc, rfl⟩ := (holds_of hown3).form
      have hS3 : Hs w (.slice oo k oc) P W3 := hS.fresh hS2 (k := W1.heap.size) (by have := HSZ1.out; omega) hg3
      have hxb3 : Hx W3 wr.heap.size x (.slice yo x.ls.length yc) := hxb2.keep hg3 (by simp [Value.ownBlock]; have := HSZ1.out; omega)
      obtain ⟨z0, z1, z2, z3, z4⟩ := hxb3.cells
      have zf := hxb3.frozen 4
      have hxb4 := hxb3.setl (.slice ro x.ls.length rc)
      have hg4 := grown_set W3 wr.heap.size 4 (.slice ro x.ls.length rc)
      have hS4 : Hs w (.slice oo k oc) P (W3.setCell ⟨wr.heap.size, 4, none⟩ (.slice ro x.ls.length rc)) := hS.fresh hS3 (k := wr.heap.size) (Nat.le_refl _) hg4
      have hown4 : (W3.setCell ⟨wr.heap.size, 4, none⟩ (.slice ro x.ls.length rc)).ownsRow w.heap.size 91 2 (.slice ro x.ls.length rc) x.ls.length (mkcells x.ls) := hown3.kept hg4 (.inr (by
        have e1 := HSZ1.out
        have e2 := HSW2.out
        rcases hob3 with hob3 | hob3
        · rw [hob3]; simp [Value.ownBlock]; omega
        · rw [hob3]; simp only [ne_eq, Option.some.injEq]; omega))
      obtain ⟨t0, t1, t2, t3, t4⟩ := hxb4.cells
      clear hg3 hg4 hob3 hnil hS2 hS3 hxb hxb2 hxb3 hm1 hm2 x0 x1 x2 x3 x4 y0 y1 y2 y3 y4
      go_upto_region 7 with fail
      generalize W3.setCell ⟨wr.heap.size, 4, none⟩ (.slice ro x.ls.length rc) = W4 at *
      have hS5 := hS4.alloc (hkO x (.slice ro x.ls.length rc))
      have hrow5 := one_row W4 x (.slice ro x.ls.length rc)
      have hown5 := hown4.alloc (hkO x (.slice ro x.ls.length rc))
      have hl4 := hS4.low.size
      have hW5 : W4.alloc (Obj.cells #[Value.int IntKind.i64 x.A, Value.int IntKind.i64 x.AN, Value.int IntKind.i64 x.B, Value.int IntKind.i64 x.BN, .slice ro x.ls.length rc] 43) = W4.alloc (hkO x (.slice ro x.ls.length rc)) := rfl
      have HS5 : Hid ((W4.alloc (hkO x (.slice ro x.ls.length rc))).heap.size = W4.heap.size + 1) := (by show _ = _; simp)
      have hownP := hS5.own
      rw [HPL.out] at hownP
      go_wp2_with (at_builtin; refine wpList_append_w _ (by kernel_rfl) (.tmp 21) (.tmp 23) 29 43 (.agg #[.int .i64 0, .int .i64 0, .int .i64 0, .int .i64 0, .slice none 0 0]) 5 56 rfl Tryd.underlying29 infoHk rfl (by decide) (by decide) w.heap.size _ _ _ rfl hownP _ 1 (hkC x (.slice ro x.ls.length rc)) rfl hrow5 rfl (hkC_one _) (by omega) (by have := HS5.out; omega) ?_)
      intro v6 W6 hown6 hg6 _
      have hS6 := hS5.more hown5 hg6 (ov' := v6) (by rw [HPL.out]; exact hown6)
      obtain ⟨ro6, rc6, rfl⟩ := (holds_of hown6).form
      have HP2 : Hid ((P ++ [(x, Value.slice ro x.ls.length rc)]).map (·.1) = (p.take (k + 1)).map (·.1)) := (by
        show _ = _
        rw [List.map_append, HP.out, List.take_succ_eq_append_getElem hlt, List.map_append, hxy]
        rfl)
      have HPL2 : Hid ((P ++ [(x, Value.slice ro x.ls.length rc)]).length = k + 1) := (by show _ = _; rw [List.length_append, HPL.out]; rfl)
      clear hg6 hown6 hownP hrow5
      go_wp2
      exact ⟨⟨k + 1, P ++ [(x, .slice ro x.ls.length rc)], by omega, by go_num, ⟨_, _, rfl⟩, hS6, HP2, HPL2⟩, by simp [intOf]; omega⟩
    · have hend : decide ((k : Int) < (p.length : Int)) = false := decide_eq_false (by omega)
      obtain rfl : k = p.length := by omega
      go_wp2
      go_ret
      refine ⟨_, rfl, P, hS, ?_⟩
      rw [HP.out, List.take_length]
end Go.Proofs.YtgiojkhmkeocfaaDoor

/- The code's small functions of layer 11, walked: the lines of a side, numbers, places, signs. -/
namespace Go.Proofs.YtgiojkhmkeocfaaDoor
open Go.RowKit

/-- which sign a side has, and which it has not -/
def Sd (sg no : Int) : Prop := sg = 45 ∧ no = 43 ∨ sg = 43 ∧ no = 45
theorem sd_iff {sg no : Int} (h : Sd sg no) (s : Int) : (s ≠ no ∧ okS s = true) ↔ (s = 32 ∨ s = sg) := by
  simp only [okS, Bool.or_eq_true, decide_eq_true_eq]
  rcases h with ⟨rfl, rfl⟩ | ⟨rfl, rfl⟩ <;> omega
theorem pk_take {sg no : Int} (h : Sd sg no) {s : Int} (hs : s = 32 ∨ s = sg) {out R : List (List UInt8)} {tx : List UInt8} {l : List Mk} (hI : out ++ (if s ≠ no ∧ okS s = true then tx :: pkL no l else pkL no l) = R) : out ++ [tx] ++ pkL no l = R := by
  rw [if_pos ((sd_iff h s).2 hs)] at hI
  rw [← hI]
  simp
theorem pk_pass {sg no : Int} (h : Sd sg no) {s : Int} (h1 : s ≠ 32) (h2 : s ≠ sg) {out R : List (List UInt8)} {tx : List UInt8} {l : List Mk} (hI : out ++ (if s ≠ no ∧ okS s = true then tx :: pkL no l else pkL no l) = R) : out ++ pkL no l = R := by
  rw [if_neg (fun q => by rcases (sd_iff h s).1 q with q | q <;> contradiction)] at hI
  exact hI

theorem owns_less {u : World} {base base' : Nat} {e : TypeId} {s : Nat} {v : Value} {n : Nat} {xs : List Value} (h : u.ownsRow base e s v n xs) (hb : base' ≤ base) : u.ownsRow base' e s v n xs := by
  refine ⟨h.1, ?_⟩
  rcases h.2 with q | ⟨b, cap, cur, rfl, q2, q3, q4⟩
  · exact .inl q
  · exact .inr ⟨b, cap, cur, rfl, Nat.le_trans hb q2, q3, q4⟩

set_option maxHeartbeats 2000000 in
theorem hside_o (h : Hk) (v : Value) (sd no : Int) (HSD : Hid (Sd sd no)) (w : World) (hv : HMk w v h.ls) (hl : h.ls.length ≤ 1099511627776) (R : List (List UInt8)) (HR : Hid (pkL no h.ls = R)) : Calls Tryd.prog 73 #[hkV h v, .int .u8 sd] w fun e w' => ∃ v', e = .returned v' ∧ w'.ownsRow w.heap.size 9 1 v' R.length (scells R) ∧ Below w.heap.size w w' := by
  obtain ⟨A, AN, B, BN, ls⟩ := h
  dsimp only at hv hl HR
  obtain ⟨lo, lc, rfl⟩ := HMk.form hv
  have hx := Hx.new w ⟨A, AN, B, BN, ls⟩ (.slice lo ls.length lc)
  have hBl : Below w.heap.size w (w.alloc (hkO ⟨A, AN, B, BN, ls⟩ (.slice lo ls.length lc))) := (Below.refl _ w).alloc (Nat.le_refl _) _
  have hv1 := HMk.keep hv hBl (Nat.le_refl _)
  obtain ⟨_, _, _, _, x4⟩ := hx.cells
  have hW : w.alloc (Obj.cells #[Value.int IntKind.i64 A, Value.int IntKind.i64 AN, Value.int IntKind.i64 B, Value.int IntKind.i64 BN, .slice lo ls.length lc] 43) = w.alloc (hkO ⟨A, AN, B, BN, ls⟩ (.slice lo ls.length lc)) := rfl
  have HSZ : Hid ((w.alloc (hkO ⟨A, AN, B, BN, ls⟩ (.slice lo ls.length lc))).heap.size = w.heap.size + 1) := (by show _ = _; simp)
  unfold hkV
  dsimp only
  clear hv hx
  generalize w.alloc (hkO ⟨A, AN, B, BN, ls⟩ (.slice lo ls.length lc)) = W at *
  go_enter Tryd.func73, Tryd.ntmps73
  go_wp2
  clear hW x4
  go_loopw [5, 11] (fun ov iv wr => ∃ (k : Nat) (out : List (List UInt8)), k ≤ ls.length ∧ out.length ≤ k ∧ iv = .int .i64 (k : Int) ∧ (∃ oo oc, ov = .slice oo out.length oc) ∧ St W 9 1 ov out.length (scells out) wr ∧ Hid (out ++ pkL no (ls.drop k) = R)) (fun _ iv _ => ls.length - (intOf iv).toNat)
  case atStart => exact ⟨0, [], Nat.zero_le _, Nat.le_refl _, by go_num, ⟨_, _, rfl⟩, ⟨hnil_row _ _ _ _, Below.refl _ _⟩, HR⟩
  case round =>
    obtain ⟨k, out, hk, hok, rfl, ⟨oo, oc, rfl⟩, hS, HI⟩ := hrel
    by_cases hlt : k < ls.length
    · obtain ⟨b, off, rfl, hb, _⟩ := HMk.at hv1 (by omega)
      obtain ⟨m, hm⟩ : ∃ m, ls[k] = m := ⟨_, rfl⟩
      obtain ⟨c0, c1⟩ := Low.mk hS.low hv1 k hlt hm
      have HI2 : Hid (out ++ (if m.sg ≠ no ∧ okS m.sg = true then m.tx :: pkL no (ls.drop (k + 1)) else pkL no (ls.drop (k + 1))) = R) := (by
        show _ = _
        rw [← HI.out, List.drop_eq_getElem_cons hlt, hm]
        rfl)
      have i1 : 0 ≤ (k : Int) := by omega
      have i2 : (k : Int) < (ls.length : Int) := by omega
      obtain ⟨m0, m1⟩ := (Mx.new wr m).cells
      have hS1 := st_alloc (mkO m) hS
      have hsS := hS.low.size
      have HSM : Hid ((wr.alloc (mkO m)).heap.size = wr.heap.size + 1) := (by show _ = _; simp)
      have hW2 : wr.alloc (Obj.cells #[Value.int IntKind.u8 m.sg, Value.string ⟨m.tx.toArray⟩] 91) = wr.alloc (mkO m) := rfl
      clear HI hm HR
      go_upto_region 5 with fail
      obtain ⟨sg, tx⟩ := m
      dsimp only at m0 m1 c0 c1 HI2 hW2
      generalize hwr1 : wr.alloc (mkO ⟨sg, tx⟩) = wr1 at *
      clear hW2
      have hs1 := hS1.low.size
      by_cases h1 : sg = 32
      · subst h1
        have HI3 : Hid (out ++ [tx] ++ pkL no (ls.drop (k + 1)) = R) := pk_take HSD.out (.inl rfl) HI2.out
        clear HI2
        go_wp2_with (at_builtin; refine wpList_append_h _ (by kernel_rfl) (.tmp 24) (.tmp 27) 23 9 (.string ⟨#[]⟩) 1 16 rfl Tryd.underlying23 infoStr rfl (by decide) (by decide) W.heap.size _ _ _ rfl (hS1.own.alloc _) _ 1 (scells [tx]) rfl (new_holds _ _ _ _ _ (by decide)) rfl (scells_one _) (by omega) (by simp; omega) ?_)
        intro v2 w2 hown2 hgrow2
        have hB2 : Below W.heap.size W w2 := (hS1.low.alloc hS1.low.size _).grown hgrow2 (by simp; omega) (fun _ hj => owns_ge hS1.own hj)
        rw [← scells_append] at hown2
        obtain ⟨oo2, oc2, rfl⟩ := (holds_of hown2).form
        clear hgrow2
        go_wp2
        exact ⟨⟨k + 1, out ++ [tx], by omega, by simp; omega, by go_num, ⟨_, _, by rw [List.length_append]; rfl⟩, ⟨by rw [List.length_append]; exact hown2, hB2⟩, HI3⟩, by simp [intOf]; omega⟩
      · have e1 : (sg == 32) = false := by simpa using h1
        by_cases h2 : sg = sd
        · subst h2
          have HI3 : Hid (out ++ [tx] ++ pkL no (ls.drop (k + 1)) = R) := pk_take HSD.out (.inr rfl) HI2.out
          clear HI2 h1
          go_wp2_with (at_builtin; refine wpList_append_h _ (by kernel_rfl) (.tmp 24) (.tmp 27) 23 9 (.string ⟨#[]⟩) 1 16 rfl Tryd.underlying23 infoStr rfl (by decide) (by decide) W.heap.size _ _ _ rfl (hS1.own.alloc _) _ 1 (scells [tx]) rfl (new_holds _ _ _ _ _ (by decide)) rfl (scells_one _) (by omega) (by simp; omega) ?_)
          intro v2 w2 hown2 hgrow2
          have hB2 : Below W.heap.size W w2 := (hS1.low.alloc hS1.low.size _).grown hgrow2 (by simp; omega) (fun _ hj => owns_ge hS1.own hj)
          rw [← scells_append] at hown2
          obtain ⟨oo2, oc2, rfl⟩ := (holds_of hown2).form
          clear hgrow2
          go_wp2
          exact ⟨⟨k + 1, out ++ [tx], by omega, by simp; omega, by go_num, ⟨_, _, by rw [List.length_append]; rfl⟩, ⟨by rw [List.length_append]; exact hown2, hB2⟩, HI3⟩, by simp [intOf]; omega⟩
        · have e2 : (sg == sd) = false := by simpa using h2
          have HI3 : Hid (out ++ pkL no (ls.drop (k + 1)) = R) := pk_pass HSD.out h1 h2 HI2.out
          clear HI2 h1 h2
          go_wp2
          exact ⟨⟨k + 1, out, by omega, by omega, by go_num, ⟨_, _, rfl⟩, hS1, HI3⟩, by simp [intOf]; omega⟩
    · have HI3 : Hid (out = R) := (by
        have h := HI.out
        rw [List.drop_of_length_le (by omega)] at h
        show out = R
        simpa [pkL] using h)
      clear HI
      have hend : decide ((k : Int) < (ls.length : Int)) = false := decide_eq_false (by omega)
      go_wp2
      go_ret
      refine ⟨_, rfl, ?_, hBl.trans (hS.low.mono (by have := HSZ.out; omega))⟩
      rw [← HI3.out]
      exact owns_less hS.own (by have := HSZ.out; omega)
theorem hOld_o (h : Hk) (v : Value) (w : World) (hv : HMk w v h.ls) (hl : h.ls.length ≤ 1099511627776) (R : List (List UInt8)) (HR : Hid (oldL h = R)) : Calls Tryd.prog 32 #[hkV h v] w fun e w' => ∃ v', e = .returned v' ∧ w'.ownsRow w.heap.size 9 1 v' R.length (scells R) ∧ Below w.heap.size w w' := by
  have hBl : Below w.heap.size w (w.alloc (hkO h v)) := (Below.refl _ w).alloc (Nat.le_refl _) _
  have hv1 := HMk.keep hv hBl (Nat.le_refl _)
  obtain ⟨c0, c1, c2, c3, c4⟩ := (Hx.new w h v).cells
  unfold hkO at c0 c1 c2 c3 c4 hBl hv1
  obtain ⟨lo, lc, rfl⟩ := HMk.form hv
  have e : hkV h (.slice lo h.ls.length lc) = .agg #[.int .i64 h.A, .int .i64 h.AN, .int .i64 h.B, .int .i64 h.BN, .slice lo h.ls.length lc] := rfl
  rw [e]
  go_enter Tryd.func32, Tryd.ntmps32
  go_wp2_with fail
  refine (hside_o h _ 45 43 (.inl ⟨rfl, rfl⟩) _ hv1 hl R HR).mono ?_
  rintro e w1 ⟨v1, rfl, hv1, hB1⟩
  obtain ⟨vo, vc, rfl⟩ := Holds.form (holds_of hv1)
  go_wp2
  go_ret
  exact ⟨_, rfl, owns_less hv1 hBl.size, hBl.trans (hB1.mono hBl.size)⟩
theorem hOld_f (h : Hk) (v : Value) (w : World) (hv : HMk w v h.ls) (hl : h.ls.length ≤ 1099511627776) (R : List (List UInt8)) (HR : Hid (oldL h = R)) : Calls Tryd.prog 32 #[hkV h v] w fun e w' => ∃ v', e = .returned v' ∧ HS w' v' R ∧ Below w.heap.size w w' := by
  refine (hOld_o h v w hv hl R HR).mono ?_
  rintro e w1 ⟨v1, rfl, h1, hB1⟩
  exact ⟨v1, rfl, holds_of h1, hB1⟩
theorem hNew_o (h : Hk) (v : Value) (w : World) (hv : HMk w v h.ls) (hl : h.ls.length ≤ 1099511627776) (R : List (List UInt8)) (HR : Hid (newL h = R)) : Calls Tryd.prog 34 #[hkV h v] w fun e w' => ∃ v', e = .returned v' ∧ w'.ownsRow w.heap.size 9 1 v' R.length (scells R) ∧ Below w.heap.size w w' := by
  have hBl : Below w.heap.size w (w.alloc (hkO h v)) := (Below.refl _ w).alloc (Nat.le_refl _) _
  have hv1 := HMk.keep hv hBl (Nat.le_refl _)
  obtain ⟨c0, c1, c2, c3, c4⟩ := (Hx.new w h v).cells
  unfold hkO at c0 c1 c2 c3 c4 hBl hv1
  obtain ⟨lo, lc, rfl⟩ := HMk.form hv
  have e : hkV h (.slice lo h.ls.length lc) = .agg #[.int .i64 h.A, .int .i64 h.AN, .int .i64 h.B, .int .i64 h.BN, .slice lo h.ls.length lc] := rfl
  rw [e]
  go_enter Tryd.func34, Tryd.ntmps34
  go_wp2_with fail
  refine (hside_o h _ 43 45 (.inr ⟨rfl, rfl⟩) _ hv1 hl R HR).mono ?_
  rintro e w1 ⟨v1, rfl, hv1, hB1⟩
  obtain ⟨vo, vc, rfl⟩ := Holds.form (holds_of hv1)
  go_wp2
  go_ret
  exact ⟨_, rfl, owns_less hv1 hBl.size, hBl.trans (hB1.mono hBl.size)⟩
theorem hNew_f (h : Hk) (v : Value) (w : World) (hv : HMk w v h.ls) (hl : h.ls.length ≤ 1099511627776) (R : List (List UInt8)) (HR : Hid (newL h = R)) : Calls Tryd.prog 34 #[hkV h v] w fun e w' => ∃ v', e = .returned v' ∧ HS w' v' R ∧ Below w.heap.size w w' := by
  refine (hNew_o h v w hv hl R HR).mono ?_
  rintro e w1 ⟨v1, rfl, h1, hB1⟩
  exact ⟨v1, rfl, holds_of h1, hB1⟩

/-- may a hunk say that number of its lines? -/
def nmB (a n : Int) : Bool := nat31 a && nat31 n && !(decide (a = 0) && decide (0 < n))
theorem hnumbered_f (a n : Int) (w : World) (r : Bool) (HR : Hid (nmB a n = r)) : Calls Tryd.prog 45 #[.int .i64 a, .int .i64 n] w fun e w' => e = .returned (.bool r) ∧ w' = w := by
  have hr : r = true ↔ (0 ≤ a ∧ a ≤ 2147483647 ∧ 0 ≤ n ∧ n ≤ 2147483647 ∧ (0 < a ∨ n = 0)) := by
    rw [← HR.out]
    unfold nmB nat31
    simp only [Bool.and_eq_true, decide_eq_true_eq, Bool.not_eq_true', Bool.and_eq_false_iff, decide_eq_false_iff_not]
    omega
  have HRR : Hid (r = true ↔ (0 ≤ a ∧ a ≤ 2147483647 ∧ 0 ≤ n ∧ n ≤ 2147483647 ∧ (0 < a ∨ n = 0))) := hr
  clear hr HR
  have no : ∀ {p : Prop}, p → (p → ¬ (0 ≤ a ∧ a ≤ 2147483647 ∧ 0 ≤ n ∧ n ≤ 2147483647 ∧ (0 < a ∨ n = 0))) → Ending.returned (.bool false) = .returned (.bool r) := fun hp h => by
    cases r with
    | false => rfl
    | true => exact absurd (HRR.out.1 rfl) (h hp)
  go_enter Tryd.func45, Tryd.ntmps45
  by_cases h1 : a < 0
  · go_wp2
    go_ret
    exact ⟨no h1 (fun _ => by omega), rfl⟩
  · have e1 : decide (a < 0) = false := decide_eq_false h1
    by_cases h2 : 2147483647 < a
    · go_wp2
      go_ret
      exact ⟨no h2 (fun _ => by omega), rfl⟩
    · have e2 : decide (2147483647 < a) = false := decide_eq_false h2
      by_cases h3 : n < 0
      · go_wp2
        go_ret
        exact ⟨no h3 (fun _ => by omega), rfl⟩
      · have e3 : decide (n < 0) = false := decide_eq_false h3
        by_cases h4 : 2147483647 < n
        · go_wp2
          go_ret
          exact ⟨no h4 (fun _ => by omega), rfl⟩
        · have e4 : decide (2147483647 < n) = false := decide_eq_false h4
          by_cases h5 : 0 < a
          · obtain rfl : r = true := HRR.out.2 (by omega)
            go_wp2
            go_ret
            exact ⟨rfl, rfl⟩
          · have e5 : decide (0 < a) = false := decide_eq_false h5
            by_cases h6 : n = 0
            · obtain rfl : r = true := HRR.out.2 (by omega)
              subst h6
              go_wp2
              go_ret
              exact ⟨rfl, rfl⟩
            · have e6 : (n == 0) = false := by simpa using h6
              go_wp2
              go_ret
              exact ⟨no h6 (fun _ => by omega), rfl⟩
/-- is a line changed? is its sign none? -/
def chgB (m : Mk) : Bool := decide (m.sg = 45) || decide (m.sg = 43)
theorem hchanged_f (m : Mk) (w : World) : Calls Tryd.prog 49 #[.agg #[.int .u8 m.sg, .string ⟨m.tx.toArray⟩]] w fun e w' => e = .returned (.bool (chgB m)) ∧ Below w.heap.size w w' := by
  obtain ⟨sg, tx⟩ := m
  obtain ⟨m0, m1⟩ := (Mx.new w ⟨sg, tx⟩).cells
  have hB : Below w.heap.size w (w.alloc (mkO ⟨sg, tx⟩)) := (Below.refl _ w).alloc (Nat.le_refl _) _
  unfold mkO at m0 m1 hB
  dsimp only at m0 m1 hB
  unfold chgB
  by_cases h1 : sg = 45
  · subst h1
    go_enter Tryd.func49, Tryd.ntmps49
    go_wp2
    go_ret
    exact ⟨rfl, hB⟩
  · have e1 : (sg == 45) = false := by simpa using h1
    by_cases h2 : sg = 43
    · subst h2
      go_enter Tryd.func49, Tryd.ntmps49
      go_wp2
      go_ret
      exact ⟨rfl, hB⟩
    · have e2 : (sg == 43) = false := by simpa using h2
      have HE : Hid ((decide (sg = 45) || decide (sg = 43)) = false) := (by show _ = _; simp [h1, h2])
      rw [HE.out]
      clear HE h1 h2
      go_enter Tryd.func49, Tryd.ntmps49
      go_wp2
      go_ret
      exact ⟨rfl, hB⟩
theorem hstrange_f (m : Mk) (w : World) : Calls Tryd.prog 47 #[.agg #[.int .u8 m.sg, .string ⟨m.tx.toArray⟩]] w fun e w' => e = .returned (.bool (!okS m.sg)) ∧ Below w.heap.size w w' := by
  obtain ⟨m0, m1⟩ := (Mx.new w m).cells
  have hB : Below w.heap.size w (w.alloc (mkO m)) := (Below.refl _ w).alloc (Nat.le_refl _) _
  have hW : w.alloc (.cells #[.int .u8 m.sg, .string ⟨m.tx.toArray⟩] 91) = w.alloc (mkO m) := rfl
  generalize w.alloc (mkO m) = W at *
  by_cases h1 : m.sg = 32
  · have HE : Hid (okS m.sg = true) := (by show _ = _; rw [h1]; rfl)
    rw [HE.out]
    have e1 : (m.sg != 32) = false := by simpa using h1
    clear HE h1
    go_enter Tryd.func47, Tryd.ntmps47
    go_wp2
    go_ret
    exact ⟨rfl, hB⟩
  · have e1 : (m.sg != 32) = true := by simpa using h1
    obtain ⟨r, hr⟩ : ∃ r, chgB m = r := ⟨_, rfl⟩
    have HE : Hid (okS m.sg = r) := (by
      show _ = _
      rw [← hr]
      unfold okS chgB
      simp [h1])
    have HC := hchanged_f m W
    rw [hr] at HC
    rw [HE.out]
    clear HE h1 hr
    go_enter Tryd.func47, Tryd.ntmps47
    go_wp2_with fail
    refine HC.mono ?_
    rintro e w1 ⟨rfl, hB1⟩
    go_wp2
    go_ret
    exact ⟨rfl, hB.trans (hB1.mono hB.size)⟩
end Go.Proofs.YtgiojkhmkeocfaaDoor

/- Which lists of changes are edit scripts: the reference's Check, walked. -/
namespace Go.Proofs.YtgiojkhmkeocfaaDoor
open Go.RowKit

end Go.Proofs.YtgiojkhmkeocfaaDoor

/- What an argument of type []int, []api.Change holds, and how much of it there is by the statement's own count. -/
namespace Go.Proofs.YtgiojkhmkeocfaaDoor
open Go.ChangeShapes Go.WideShapes Go.ChangeAt Go.RowKit

theorem own : ownKnob Tryd.prog.godebug = none := by kernel_rfl
theorem laidOut : laidOutB Tryd.prog = true := by kernel_rfl
theorem cellsInt : Tryd.prog.cellsOf 3 = 1 := by kernel_rfl
theorem cellsCh : Tryd.prog.cellsOf 73 = 4 := by kernel_rfl

/-- numbers that an int holds -/
def w64 (z : Int) : Prop := -9223372036854775808 ≤ z ∧ z ≤ 9223372036854775807
theorem w64_of {z : Int} (h : (Lit.int .i64 z).wf = true) : w64 z := bounds_i64 h
/-- a change of numbers that an int holds -/
def wCh (c : Ch) : Prop := w64 c.A ∧ w64 c.AN ∧ w64 c.B ∧ w64 c.BN

theorem lits_len {H : Type} (l : List Int) : l.length ≤ Rows.uptoBulkAll (lits (H := H) .i64 l) := by
  induction l with
  | nil => simp [lits, Rows.uptoBulkAll]
  | cons s t ih =>
    have e : lits (H := H) .i64 (s :: t) = .lit (.int .i64 s) :: lits .i64 t := rfl
    rw [e]
    simp only [Rows.uptoBulkAll, Rows.uptoBulk, List.length_cons]
    omega

theorem bulk_range {H : Type} (D : Nat → DataW H) (n : Nat) (h : ∀ i, i < n → 1 ≤ Rows.uptoBulk (D i)) : n ≤ Rows.uptoBulkAll ((List.range n).map D) := by
  have hall : ∀ l : List (DataW H), (∀ d ∈ l, 1 ≤ Rows.uptoBulk d) → l.length ≤ Rows.uptoBulkAll l := by
    intro l
    induction l with
    | nil => simp
    | cons d t ih =>
      intro hd
      have h1 := hd d (List.mem_cons_self ..)
      have h2 := ih fun x hx => hd x (List.mem_cons_of_mem _ hx)
      rw [Rows.uptoBulkAll]
      simp only [List.length_cons]
      omega
  have := hall ((List.range n).map D) (by
    intro d hd
    simp only [List.mem_map, List.mem_range] at hd
    obtain ⟨i, hi, rfl⟩ := hd
    exact h i hi)
  simpa using this

set_option maxRecDepth 10000 in
/-- the changes that an argument holds -/
theorem open_chs {H : Type} {enc : TypeId × Value → H} {W : World} {fuel : Nat} {ao : Option Addr} {len cap : Nat} {d : DataW H} {p : List MemPlace}
    (h : DataW.trod enc Tryd.prog W 0 (fun _ => true) true fuel 22 [.slice ao len cap] = some (d, p)) :
    ∃ l : List Ch, HCh W (.slice ao len cap) l ∧ l.length ≤ Rows.uptoBulk d ∧ ∀ c ∈ l, wCh c := by
  rcases Go.Deep.open_slice Tryd.underlying22 h with ⟨hcs, hx⟩ | ⟨a, l, c, m, n, D, Pl, hcs, _, hl, hm, hmm, hx, hel⟩
  · simp at hcs
    obtain ⟨rfl, rfl, rfl⟩ := hcs
    exact ⟨[], .inl ⟨rfl, rfl, rfl⟩, by simp, by simp⟩
  · simp at hcs
    obtain ⟨rfl, rfl, rfl⟩ := hcs
    simp only [Prod.mk.injEq] at hx
    obtain ⟨rfl, _⟩ := hx
    have hlm : len ≤ m := by rw [hmm]; split <;> omega
    have each : ∀ i, i < len → ∃ c : Ch, wCh c ∧ W.cell? (a.add (i * 4)) = some (.int .i64 c.A) ∧ W.cell? (a.add (i * 4 + 1)) = some (.int .i64 c.AN) ∧ W.cell? (a.add (i * 4 + 2)) = some (.int .i64 c.B) ∧ W.cell? (a.add (i * 4 + 3)) = some (.int .i64 c.BN) ∧ 1 ≤ Rows.uptoBulk (D i) := by
      intro i hi
      obtain ⟨cs', h1, h2⟩ := hel i (by omega)
      rw [cellsCh] at h1
      obtain ⟨_, hlen, hcell⟩ := World.cells?_some h1
      obtain ⟨xs, k, hk, hxy, _, hxl, hf⟩ := DataW.trod_struct Tryd.underlying73 h2
      match xs, hxl, cs', hlen with
      | [y0, y1, y2, y3], _, [v0, v1, v2, v3], _ =>
        have g0 := hf 0 _ rfl
        have g1 := hf 1 _ rfl
        have g2 := hf 2 _ rfl
        have g3 := hf 3 _ rfl
        simp [cellsInt] at g0 g1 g2 g3
        obtain ⟨z0, e0, _, w0⟩ := DataW.trod_int Tryd.underlying3 g0
        obtain ⟨z1, e1, _, w1⟩ := DataW.trod_int Tryd.underlying3 g1
        obtain ⟨z2, e2, _, w2⟩ := DataW.trod_int Tryd.underlying3 g2
        obtain ⟨z3, e3, _, w3⟩ := DataW.trod_int Tryd.underlying3 g3
        cases e0
        cases e1
        cases e2
        cases e3
        have c0 := hcell 0 (by omega)
        have c1 := hcell 1 (by omega)
        have c2 := hcell 2 (by omega)
        have c3 := hcell 3 (by omega)
        rw [Go.Deep.add_add] at c0 c1 c2 c3
        simp only [Prod.mk.injEq] at hxy
        refine ⟨⟨z0, z1, z2, z3⟩, ⟨w64_of w0, w64_of w1, w64_of w2, w64_of w3⟩, by simpa using c0, by simpa using c1, by simpa using c2, by simpa using c3, ?_⟩
        rw [hxy.1, Rows.uptoBulk]
        omega
    have : Inhabited Ch := ⟨⟨0, 0, 0, 0⟩⟩
    obtain ⟨f, hf⟩ := Go.Deep.choose_lt each
    have hlen : ((List.range len).map f).length = len := by simp
    refine ⟨(List.range len).map f, .inr ⟨a, cap, by rw [hlen], by rw [hlen]; exact hl, fun j u hj => ?_⟩, ?_, ?_⟩
    · have hj' : j < len * 4 := by
        have := (List.getElem?_eq_some_iff.1 hj).1
        rw [chcells_length, hlen] at this
        exact this
      obtain ⟨h0, h1, h2, h3⟩ := chcells_at ((List.range len).map f) (j / 4) (by rw [hlen]; omega)
      obtain ⟨_, g0, g1, g2, g3, _⟩ := hf (j / 4) (by omega)
      simp only [List.getElem_map, List.getElem_range] at h0 h1 h2 h3
      rcases (by omega : j = 4 * (j / 4) ∨ j = 4 * (j / 4) + 1 ∨ j = 4 * (j / 4) + 2 ∨ j = 4 * (j / 4) + 3) with e | e | e | e
      · rw [e, h0] at hj
        rw [e, Nat.mul_comm, g0, hj]
      · rw [e, h1] at hj
        rw [e, Nat.mul_comm, g1, hj]
      · rw [e, h2] at hj
        rw [e, Nat.mul_comm, g2, hj]
      · rw [e, h3] at hj
        rw [e, Nat.mul_comm, g3, hj]
    · rw [hlen, Rows.uptoBulk]
      have := bulk_range D len fun i hi => (hf i hi).2.2.2.2.2
      omega
    · intro c hc
      simp only [List.mem_map, List.mem_range] at hc
      obtain ⟨i, hi, rfl⟩ := hc
      exact (hf i hi).1
end Go.Proofs.YtgiojkhmkeocfaaDoor

/- What an argument of type []string holds, and how much of it there is by the statement's own count. -/
namespace Go.Proofs.YtgiojkhmkeocfaaDoor
open Go.ChangeShapes Go.WideShapes Go.ChangeAt Go.RowKit

theorem cellsStr : Tryd.prog.cellsOf 9 = 1 := by kernel_rfl
theorem strs_bulk {H : Type} (l : List ByteArray) : l.length + (l.map fun s => s.data.toList).flatten.length ≤ Rows.uptoBulkAll (strs (H := H) l) := by
  induction l with
  | nil => simp [strs, Rows.uptoBulkAll]
  | cons s t ih =>
    have e : strs (H := H) (s :: t) = .lit (.string s.data.toList) :: strs t := rfl
    rw [e, Rows.uptoBulkAll, Rows.uptoBulk]
    simp only [List.length_cons, List.map_cons, List.flatten_cons, List.length_append] at ih ⊢
    omega

/-- the texts that an argument holds -/
theorem open_texts {H : Type} {enc : TypeId × Value → H} {W : World} {fuel : Nat} {ao : Option Addr} {len cap : Nat} {d : DataW H} {p : List MemPlace}
    (h : DataW.trod enc Tryd.prog W 0 (fun _ => true) true fuel 23 [.slice ao len cap] = some (d, p)) :
    ∃ ws : List (List UInt8), HS W (.slice ao len cap) ws ∧ ws.length + ws.flatten.length ≤ Rows.uptoBulk d := by
  rcases open_strings Tryd.underlying23 Tryd.underlying9 cellsStr h with ⟨hcs, hx⟩ | ⟨a, l, c, ss, hcs, _, hl, hm, hz, hx, hcell, _⟩
  · simp at hcs
    obtain ⟨rfl, rfl, rfl⟩ := hcs
    exact ⟨[], .inl ⟨rfl, rfl, rfl⟩, by simp⟩
  · simp at hcs
    obtain ⟨rfl, rfl, rfl⟩ := hcs
    simp at hz
    simp only [Prod.mk.injEq] at hx
    obtain ⟨rfl, _⟩ := hx
    have hlen : ((ss.take len).map fun s => s.data.toList).length = len := by simp; omega
    refine ⟨(ss.take len).map fun s => s.data.toList, .inr ⟨a, cap, by rw [hlen], by omega, fun j u hj => ?_⟩, ?_⟩
    · have hj' : j < len := by
        have := (List.getElem?_eq_some_iff.1 hj).1
        rw [scells_length, hlen] at this
        exact this
      rw [hcell j (by omega)]
      have hjs : j < ss.length := by omega
      simp [scells, hj', hjs] at hj
      simp [List.getD, hjs, ← hj]
    · have := strs_bulk (H := H) (ss.take len)
      rw [Rows.uptoBulk]
      simp only [List.length_map] at this ⊢
      omega
end Go.Proofs.YtgiojkhmkeocfaaDoor

/- What arguments of type api.Hunk, []api.Hunk hold, and how much of it there is by the statement's own count. -/
namespace Go.Proofs.YtgiojkhmkeocfaaDoor
open Go.ChangeShapes Go.WideShapes Go.ChangeAt Go.RowKit

theorem cellsMk : Tryd.prog.cellsOf 91 = 2 := by kernel_rfl
theorem cellsHk : Tryd.prog.cellsOf 43 = 5 := by kernel_rfl
theorem cellsU8 : Tryd.prog.cellsOf 5 = 1 := by kernel_rfl
theorem cellsMks : Tryd.prog.cellsOf 41 = 1 := by kernel_rfl
/-- how much lines are, and hunks -/
def mb : List Mk → Nat
  | [] => 0
  | m :: l => m.tx.length + 1 + mb l
def hbk : List Hk → Nat
  | [] => 0
  | h :: l => mb h.ls + 1 + hbk l
theorem mb_len (l : List Mk) : l.length ≤ mb l := by
  induction l with
  | nil => simp
  | cons m l ih => simp only [mb, List.length_cons]; omega
theorem mb_mem (l : List Mk) : ∀ m ∈ l, m.tx.length ≤ mb l := by
  induction l with
  | nil => intro m hm; cases hm
  | cons x l ih =>
    intro m hm
    simp only [mb]
    rcases List.mem_cons.1 hm with rfl | hm
    · omega
    · have := ih m hm
      omega
theorem hb_len (l : List Hk) : l.length ≤ hbk l := by
  induction l with
  | nil => simp
  | cons m l ih => simp only [hbk, List.length_cons]; omega
theorem hb_mem (l : List Hk) : ∀ h ∈ l, mb h.ls ≤ hbk l := by
  induction l with
  | nil => intro m hm; cases hm
  | cons x l ih =>
    intro m hm
    simp only [hbk]
    rcases List.mem_cons.1 hm with rfl | hm
    · omega
    · have := ih m hm
      omega
theorem mb_range (f : Nat → Mk) (n : Nat) : mb ((List.range n).map f) = ((List.range n).map fun i => (f i).tx.length + 1).sum := by
  have key : ∀ l : List Mk, mb l = (l.map fun m => m.tx.length + 1).sum := by
    intro l
    induction l with
    | nil => rfl
    | cons m l ih => simp only [mb, ih, List.map_cons, List.sum_cons]
  rw [key, List.map_map]
  rfl
theorem hb_range (f : Nat → Hk) (n : Nat) : hbk ((List.range n).map f) = ((List.range n).map fun i => mb (f i).ls + 1).sum := by
  have key : ∀ l : List Hk, hbk l = (l.map fun m => mb m.ls + 1).sum := by
    intro l
    induction l with
    | nil => rfl
    | cons m l ih => simp only [hbk, ih, List.map_cons, List.sum_cons]
  rw [key, List.map_map]
  rfl
theorem bulk_sum {H : Type} (D : Nat → DataW H) (c : Nat → Nat) (n : Nat) (h : ∀ i, i < n → c i ≤ Rows.uptoBulk (D i)) : ((List.range n).map c).sum ≤ Rows.uptoBulkAll ((List.range n).map D) := by
  have key : ∀ l : List Nat, (∀ i ∈ l, c i ≤ Rows.uptoBulk (D i)) → (l.map c).sum ≤ Rows.uptoBulkAll (l.map D) := by
    intro l
    induction l with
    | nil => intro _; simp
    | cons i l ih =>
      intro hl
      have h1 := hl i (by simp)
      have h2 := ih fun j hj => hl j (by simp [hj])
      simp only [List.map_cons, List.sum_cons, Rows.uptoBulkAll]
      omega
  exact key _ fun i hi => h i (by simpa using hi)

set_option maxRecDepth 10000 in
theorem open_mks {H : Type} {enc : TypeId × Value → H} {W : World} {fuel : Nat} {cs : List Value} {d : DataW H} {p : List MemPlace}
    (h : DataW.trod enc Tryd.prog W 0 (fun _ => true) true fuel 41 cs = some (d, p)) :
    ∃ (v : Value) (l : List Mk), cs = [v] ∧ HMk W v l ∧ mb l ≤ Rows.uptoBulk d ∧ ∀ m ∈ l, 0 ≤ m.sg ∧ m.sg ≤ 255 := by
  rcases Go.Deep.open_slice Tryd.underlying41 h with ⟨hcs, hx⟩ | ⟨a, len, cap, m, n, D, Pl, hcs, _, hl, hm, hmm, hx, hel⟩
  · exact ⟨_, [], hcs, .inl ⟨rfl, rfl, rfl⟩, by simp [mb], by simp⟩
  · simp only [Prod.mk.injEq] at hx
    obtain ⟨rfl, _⟩ := hx
    have hlm : len ≤ m := by rw [hmm]; split <;> omega
    have each : ∀ i, i < len → ∃ c : Mk, (0 ≤ c.sg ∧ c.sg ≤ 255) ∧ W.cell? (a.add (i * 2)) = some (.int .u8 c.sg) ∧ W.cell? (a.add (i * 2 + 1)) = some (.string ⟨c.tx.toArray⟩) ∧ c.tx.length + 1 ≤ Rows.uptoBulk (D i) := by
      intro i hi
      obtain ⟨cs', h1, h2⟩ := hel i (by omega)
      rw [cellsMk] at h1
      obtain ⟨_, hlen, hcell⟩ := World.cells?_some h1
      obtain ⟨xs, k, hk, hxy, _, hxl, hf⟩ := DataW.trod_struct Tryd.underlying91 h2
      match xs, hxl, cs', hlen with
      | [y0, y1], _, [v0, v1], _ =>
        have g0 := hf 0 _ rfl
        have g1 := hf 1 _ rfl
        simp [cellsU8, cellsStr] at g0 g1
        obtain ⟨z0, e0, q0, w0⟩ := DataW.trod_int Tryd.underlying5 g0
        obtain ⟨z1, e1, q1, _⟩ := DataW.trod_string Tryd.underlying9 g1
        cases e0
        cases e1
        have c0 := hcell 0 (by omega)
        have c1 := hcell 1 (by omega)
        rw [Go.Deep.add_add] at c0 c1
        simp only [Prod.mk.injEq] at hxy
        have hw : 0 ≤ z0 ∧ z0 ≤ 255 := bounds_u8 w0
        refine ⟨⟨z0, z1.data.toList⟩, hw, by simpa using c0, by simpa using c1, ?_⟩
        rw [hxy.1, q0, q1]
        simp [Rows.uptoBulk, Rows.uptoBulkAll]
        omega
    have : Inhabited Mk := ⟨⟨0, []⟩⟩
    obtain ⟨f, hf⟩ := Go.Deep.choose_lt each
    have hlen : ((List.range len).map f).length = len := by simp
    refine ⟨_, (List.range len).map f, hcs, .inr ⟨a, cap, by rw [hlen], by rw [hlen]; exact hl, fun j u hj => ?_⟩, ?_, ?_⟩
    · have hj' : j < len * 2 := by
        have := (List.getElem?_eq_some_iff.1 hj).1
        rw [mkcells_length, hlen] at this
        exact this
      obtain ⟨h0, h1⟩ := mkcells_at ((List.range len).map f) (j / 2) (by rw [hlen]; omega)
      obtain ⟨_, g0, g1, _⟩ := hf (j / 2) (by omega)
      simp only [List.getElem_map, List.getElem_range] at h0 h1
      rcases (by omega : j = 2 * (j / 2) ∨ j = 2 * (j / 2) + 1) with e | e
      · rw [e, h0] at hj
        rw [e, Nat.mul_comm, g0, hj]
      · rw [e, h1] at hj
        rw [e, Nat.mul_comm, g1, hj]
    · rw [mb_range, Rows.uptoBulk]
      have := bulk_sum D (fun i => (f i).tx.length + 1) len fun i hi => (hf i hi).2.2.2
      omega
    · intro c hc
      simp only [List.mem_map, List.mem_range] at hc
      obtain ⟨i, hi, rfl⟩ := hc
      exact (hf i hi).1
set_option maxRecDepth 4000 in
/-- a hunk's cells -/
theorem open_hkc {H : Type} {enc : TypeId × Value → H} {W : World} {fuel : Nat} {cs : List Value} {d : DataW H} {p : List MemPlace}
    (h : DataW.trod enc Tryd.prog W 0 (fun _ => true) true fuel 43 cs = some (d, p)) :
    ∃ (x : Hk) (y : Value), cs = hkC x y ∧ HMk W y x.ls ∧ mb x.ls + 1 ≤ Rows.uptoBulk d ∧ (w64 x.A ∧ w64 x.AN ∧ w64 x.B ∧ w64 x.BN) ∧ ∀ m ∈ x.ls, 0 ≤ m.sg ∧ m.sg ≤ 255 := by
  obtain ⟨xs, k, hk, hxy, hlen, hxl, hf⟩ := DataW.trod_struct Tryd.underlying43 h
  rw [cellsHk] at hlen
  match xs, hxl, cs, hlen with
  | [y0, y1, y2, y3, y4], _, [v0, v1, v2, v3, v4], _ =>
    have g0 := hf 0 _ rfl
    have g1 := hf 1 _ rfl
    have g2 := hf 2 _ rfl
    have g3 := hf 3 _ rfl
    have g4 := hf 4 _ rfl
    simp [cellsInt, cellsMks] at g0 g1 g2 g3 g4
    obtain ⟨z0, e0, q0, w0⟩ := DataW.trod_int Tryd.underlying3 g0
    obtain ⟨z1, e1, q1, w1⟩ := DataW.trod_int Tryd.underlying3 g1
    obtain ⟨z2, e2, q2, w2⟩ := DataW.trod_int Tryd.underlying3 g2
    obtain ⟨z3, e3, q3, w3⟩ := DataW.trod_int Tryd.underlying3 g3
    obtain ⟨y4d, y4p⟩ := y4
    obtain ⟨v, l, e4, hm, hb, hs⟩ := open_mks g4
    cases e0
    cases e1
    cases e2
    cases e3
    cases e4
    simp only [Prod.mk.injEq] at hxy
    refine ⟨⟨z0, z1, z2, z3, l⟩, v4, rfl, hm, ?_, ⟨w64_of w0, w64_of w1, w64_of w2, w64_of w3⟩, hs⟩
    rw [hxy.1, q0, q1, q2, q3]
    simp [Rows.uptoBulk, Rows.uptoBulkAll]
    omega
set_option maxRecDepth 10000 in
/-- the hunks that an argument holds -/
theorem open_hks {H : Type} {enc : TypeId × Value → H} {W : World} {fuel : Nat} {ao : Option Addr} {len cap : Nat} {d : DataW H} {p : List MemPlace}
    (h : DataW.trod enc Tryd.prog W 0 (fun _ => true) true fuel 29 [.slice ao len cap] = some (d, p)) :
    ∃ l : List (Hk × Value), HHp W (.slice ao len cap) l ∧ hbk (l.map (·.1)) ≤ Rows.uptoBulk d ∧ ∀ x ∈ l, (w64 x.1.A ∧ w64 x.1.AN ∧ w64 x.1.B ∧ w64 x.1.BN) ∧ ∀ m ∈ x.1.ls, 0 ≤ m.sg ∧ m.sg ≤ 255 := by
  rcases Go.Deep.open_slice Tryd.underlying29 h with ⟨hcs, hx⟩ | ⟨a, l, c, m, n, D, Pl, hcs, _, hl, hm, hmm, hx, hel⟩
  · simp at hcs
    obtain ⟨rfl, rfl, rfl⟩ := hcs
    exact ⟨[], ⟨.inl ⟨rfl, rfl, rfl⟩, by simp⟩, by simp [hbk], by simp⟩
  · simp at hcs
    obtain ⟨rfl, rfl, rfl⟩ := hcs
    simp only [Prod.mk.injEq] at hx
    obtain ⟨rfl, _⟩ := hx
    have hlm : len ≤ m := by rw [hmm]; split <;> omega
    have each : ∀ i, i < len → ∃ c : Hk × Value, (∀ j, j < 5 → W.cell? (a.add (i * 5 + j)) = (hkC c.1 c.2)[j]?) ∧ HMk W c.2 c.1.ls ∧ mb c.1.ls + 1 ≤ Rows.uptoBulk (D i) ∧ (w64 c.1.A ∧ w64 c.1.AN ∧ w64 c.1.B ∧ w64 c.1.BN) ∧ ∀ m ∈ c.1.ls, 0 ≤ m.sg ∧ m.sg ≤ 255 := by
      intro i hi
      obtain ⟨cs', h1, h2⟩ := hel i (by omega)
      rw [cellsHk] at h1
      obtain ⟨_, hlen, hcell⟩ := World.cells?_some h1
      obtain ⟨x, y, rfl, hm, hb, hw, hs⟩ := open_hkc h2
      refine ⟨(x, y), fun j hj => ?_, hm, hb, hw, hs⟩
      have := hcell j (by simpa [hkC] using hj)
      rw [Go.Deep.add_add] at this
      rw [this]
    have : Inhabited (Hk × Value) := ⟨(⟨0, 0, 0, 0, []⟩, .slice none 0 0)⟩
    obtain ⟨f, hf⟩ := Go.Deep.choose_lt each
    have hlen : ((List.range len).map f).length = len := by simp
    refine ⟨(List.range len).map f, ⟨.inr ⟨a, cap, by rw [hlen], by rw [hlen]; exact hl, fun j u hj => ?_⟩, ?_⟩, ?_, ?_⟩
    · have hj' : j < len * 5 := by
        have := (List.getElem?_eq_some_iff.1 hj).1
        rw [hkcells_length, hlen] at this
        exact this
      obtain ⟨h0, h1, h2, h3, h4⟩ := hkcells_at ((List.range len).map f) (j / 5) (by rw [hlen]; omega)
      have hfj := (hf (j / 5) (by omega)).1
      simp only [List.getElem_map, List.getElem_range] at h0 h1 h2 h3 h4
      rcases (by omega : j = 5 * (j / 5) ∨ j = 5 * (j / 5) + 1 ∨ j = 5 * (j / 5) + 2 ∨ j = 5 * (j / 5) + 3 ∨ j = 5 * (j / 5) + 4) with e | e | e | e | e
      · rw [e, h0] at hj
        have := hfj 0 (by omega)
        rw [e, Nat.mul_comm]
        rw [Nat.add_zero] at this
        rw [this, ← hj]
        rfl
      · rw [e, h1] at hj
        rw [e, Nat.mul_comm, hfj 1 (by omega), ← hj]
        rfl
      · rw [e, h2] at hj
        rw [e, Nat.mul_comm, hfj 2 (by omega), ← hj]
        rfl
      · rw [e, h3] at hj
        rw [e, Nat.mul_comm, hfj 3 (by omega), ← hj]
        rfl
      · rw [e, h4] at hj
        rw [e, Nat.mul_comm, hfj 4 (by omega), ← hj]
        rfl
    · intro x hx
      simp only [List.mem_map, List.mem_range] at hx
      obtain ⟨i, hi, rfl⟩ := hx
      exact (hf i hi).2.1
    · rw [List.map_map]
      have e := hb_range (fun i => (f i).1) len
      have h2 := bulk_sum D (fun i => mb (f i).1.ls + 1) len fun i hi => (hf i hi).2.2.1
      rw [Rows.uptoBulk]
      show hbk ((List.range len).map fun i => (f i).1) ≤ _
      omega
    · intro x hx
      simp only [List.mem_map, List.mem_range] at hx
      obtain ⟨i, hi, rfl⟩ := hx
      exact (hf i hi).2.2.2
end Go.Proofs.YtgiojkhmkeocfaaDoor
