/-
  Two scripts one behind the other: both and Compose of the code, walked.
-/
import Derived.Test.YtppdcjjkkckokaaEdMk
import Derived.Test.YtppdcjjkkckokaaEdM4
import Derived.Test.YtppdcjjkkckokaaEdDrew
import Derived.Deep.CutRange
namespace Go.Proofs.Ytppdcjjkkckokaa
open Go.RowKit

/-- x[1:] of a slice of runs -/
theorem run_tail (X : List Rn) (r : Rn) (ao : Option Addr) (cap : Nat) (w : World) (hX : HRn w (.slice ao (r :: X).length cap) (r :: X)) :
    ∃ vo vc, (∀ u : World, (Instr.slice 53 (.slice ao (X.length + 1) cap) (some (.int .i64 1)) none none).run Try.prog u = .ok (.slice vo X.length vc) u) ∧ (∀ u : World, HRn u (.slice ao (X.length + 1) cap) (r :: X) → HRn u (.slice vo X.length vc) X) := by
  have hnc : X.length + 1 ≤ cap := by
    rcases hX with ⟨_, h3, _⟩ | ⟨ad, c, h, h3, _⟩
    · simp at h3
    · cases h; exact h3
  refine ⟨if cap = 1 then ao else ao.map (·.add 3), cap - 1, fun u => ?_, fun u hu => ?_⟩
  · rw [run_slice_l (P := Try.prog) u 53 ao (X.length + 1) cap (by kernel_rfl) .i64 1 (by omega) (by omega)]
    have : (sizeOf (Try.prog.elem 53)).run Try.prog u = .ok 3 u := by kernel_rfl
    rw [this]
    simp [Result.andThen, sliced]
  · rcases hu with ⟨h, h3, _⟩ | ⟨ad, c, h, h3, hc⟩
    · simp at h3
    · cases h
      refine .inr ⟨if cap = 1 then ad else ad.add 3, cap - 1, by split <;> simp, by omega, fun j x hj => ?_⟩
      have hl := (List.getElem?_eq_some_iff.1 hj).1
      rw [rncells_length] at hl
      rw [if_neg (by omega)]
      obtain ⟨b, off, rfl⟩ := addr_of (hc 0 (.int .i64 r.a) rfl)
      have h5 : (rncells (r :: X))[3 + j]? = some x := by
        have e : rncells (r :: X) = rnC r ++ rncells X := rfl
        rw [e, List.getElem?_append_right (by simp [rnC])]
        simp [rnC, hj]
      have := hc _ _ h5
      rw [add_none] at this
      rw [add_none, add_none, Nat.add_assoc]
      exact this

/-- how long a slice value is -/
def lenOf : Value → Nat
  | .slice _ n _ => n
  | _ => 0
theorem row_not {wr w' : World} {base : Nat} {e : TypeId} {s : Nat} {v : Value} {n : Nat} {xs : List Value} (h : wr.ownsRow base e s v n xs) {wz : World} (hg : wz.grownBy w' v.ownBlock) {k : Nat} (hk : wr.heap.size ≤ k) {o : Obj} (ho : wz.heap[k]? = some o) : w'.heap[k]? = some o := by
  refine (hg.block k (Array.getElem?_eq_some_iff.1 ho).1 (fun e => ?_)).trans ho
  rcases h.2 with ⟨rfl, _⟩ | ⟨g, cap, cur, rfl, _, h3, _⟩
  · simp [Value.ownBlock] at e
  · simp only [Value.ownBlock, Option.some.injEq] at e
    have := (Array.getElem?_eq_some_iff.1 h3).1
    omega

set_option maxRecDepth 10000 in
set_option maxHeartbeats 4000000 in
theorem both_f (X Y R : List Rn) (vx vy : Value) (w : World) (hx : HRn w vx X) (hy : HRn w vy Y) (hxl : X.length ≤ 1048577) (hyl : Y.length ≤ 1048577) (sX : Hid (∀ r ∈ X, sm r)) (sY : Hid (∀ r ∈ Y, sm r)) (hR : Hid (bothR X Y = R)) :
    Calls Try.prog 32 #[vx, vy] w fun e w' => ∃ v', e = .returned v' ∧ w'.ownsRow w.heap.size 62 3 v' R.length (rncells R) ∧ Below w.heap.size w w' := by
  obtain ⟨xo, xc, rfl⟩ := Holds.form hx
  obtain ⟨yo, yc, rfl⟩ := Holds.form hy
  go_enter Try.func32, Try.ntmps32
  go_wp2
  go_loopw [0, 1, 5] (fun xv yv kv wr => ∃ (P Q Z : List Rn) (po qo zo : Option Addr) (pc qc zc : Nat), xv = .slice po P.length pc ∧ yv = .slice qo Q.length qc ∧ kv = .slice zo Z.length zc ∧ HRn w xv P ∧ HRn w yv Q ∧ P.length ≤ X.length ∧ Q.length ≤ Y.length ∧ Below w.heap.size w wr ∧ wr.ownsRow w.heap.size 62 3 kv Z.length (rncells Z) ∧ Z.length + P.length + Q.length ≤ X.length + Y.length ∧ Hid ((∀ r ∈ P, sm r) ∧ (∀ r ∈ Q, sm r)) ∧ Hid (Z ++ bothR P Q = R)) (fun xv yv _ _ => lenOf xv + lenOf yv)
  case atStart => exact ⟨X, Y, [], xo, yo, none, xc, yc, 0, rfl, rfl, rfl, hx, hy, Nat.le_refl _, Nat.le_refl _, Below.refl _ w, World.ownsRow_nil _ _ _ _, by simp, ⟨sX.out, sY.out⟩, hR⟩
  case round =>
    obtain ⟨P, Q, Z, po, qo, zo, pc, qc, zc, rfl, rfl, rfl, hP, hQ, hPl, hQl, hB, hO, hZ, hsm, hRr⟩ := hrel
    have hsz := hB.size
    cases P with
    | nil =>
      have hR' := hRr.out
      rw [bothR, List.append_nil] at hR'
      subst hR'
      clear hRr
      simp only [List.length_nil]
      go_wp2
      go_ret
      exact ⟨_, rfl, hO, hB⟩
    | cons p P =>
      cases Q with
      | nil =>
        have hR' := hRr.out
        rw [bothR, List.append_nil] at hR'
        subst hR'
        clear hRr
        simp only [List.length_nil, List.length_cons] at *
        go_wp2
        go_ret
        exact ⟨_, rfl, hO, hB⟩
      | cons q Q =>
        obtain ⟨tpo, tpc, hst, hPt'⟩ := run_tail P p po pc w hP
        obtain ⟨tqo, tqc, hsq, hQt'⟩ := run_tail Q q qo qc w hQ
        have hPt := hPt' w hP
        have hQt := hQt' w hQ
        clear hPt' hQt'
        have hsp := hsm.out.1 p (List.mem_cons_self ..)
        have hsq' := hsm.out.2 q (List.mem_cons_self ..)
        obtain ⟨bp, op, rfl, lbp, hcp⟩ := HRn.at (HRn.keep hP hB (Nat.le_refl _)) (by simp)
        obtain ⟨bq, oq, rfl, lbq, hcq⟩ := HRn.at (HRn.keep hQ hB (Nat.le_refl _)) (by simp)
        obtain ⟨c0, c1, c2⟩ := hcp 0 (by simp)
        obtain ⟨d0, d1, d2⟩ := hcq 0 (by simp)
        simp only [List.getElem_cons_zero, Nat.zero_mul, Nat.add_zero] at c0 c1 c2 d0 d1 d2
        obtain ⟨pa, pb, pn⟩ := p
        obtain ⟨qa, qb, qn⟩ := q
        dsimp only at c0 c1 c2 d0 d1 d2
        obtain ⟨s1, s2, s3, s4, s5, s6⟩ := hsp
        obtain ⟨q1, q2, q3, q4, q5, q6⟩ := hsq'
        dsimp only at s1 s2 s3 s4 s5 s6 q1 q2 q3 q4 q5 q6
        clear hcp hcq
        simp only [List.length_cons] at hP hQ hPl hQl hZ ⊢
        go_wp2_with fail
        go_cut [6, 7] from 10 to 74 (fun pv qv wz => ∃ gp gq, pv = .pointer (some ⟨gp, 0, none⟩) ∧ qv = .pointer (some ⟨gq, 0, none⟩) ∧ wr.heap.size ≤ gp ∧ wz.heap[gp]? = some (Obj.cells #[.int .i64 pa, .int .i64 pb, .int .i64 pn] 62 (0, 0)) ∧ wz.heap[gq]? = some (Obj.cells #[.int .i64 qa, .int .i64 qb, .int .i64 qn] 62 (0, 0)) ∧ Below w.heap.size w wz ∧ wz.ownsRow w.heap.size 62 3 (.slice zo Z.length zc) Z.length (rncells Z))
        case first =>
          go_region
          · go_wp2
            go_meet
            case rel => exact ⟨wr.heap.size, wr.heap.size + 1, rfl, rfl, Nat.le_refl _, (Below.heap_alloc _ _ _ (by simp)).trans (_root_.Go.heap_alloc_new wr _), alloc_second wr _ _, Below.dN ((hB.alloc (by omega) _).alloc (by simp; omega) _) 1, (hO.alloc _).alloc _⟩
          · go_wp2
            go_meet
            case rel => exact ⟨wr.heap.size + 1, wr.heap.size, rfl, rfl, by omega, alloc_second wr _ _, (Below.heap_alloc _ _ _ (by simp)).trans (_root_.Go.heap_alloc_new wr _), Below.dN ((hB.alloc (by omega) _).alloc (by simp; omega) _) 1, (hO.alloc _).alloc _⟩
        case rest =>
          obtain ⟨gp, gq, rfl, rfl, hgp, hbp, hbq, hBz, hOz⟩ := hcut
          clear c0 c1 c2 d0 d1 d2 lbp lbq
          have hszz := hBz.size
          have r0 : wc.cell? ⟨gp, 0, none⟩ = some (.int .i64 pa) := by rw [Lib.cell_of_heap hbp]; rfl
          have r1 : wc.cell? ⟨gp, 1, none⟩ = some (.int .i64 pb) := by rw [Lib.cell_of_heap hbp]; rfl
          have r2 : wc.cell? ⟨gp, 2, none⟩ = some (.int .i64 pn) := by rw [Lib.cell_of_heap hbp]; rfl
          have t0 : wc.cell? ⟨gq, 0, none⟩ = some (.int .i64 qa) := by rw [Lib.cell_of_heap hbq]; rfl
          have t1 : wc.cell? ⟨gq, 1, none⟩ = some (.int .i64 qb) := by rw [Lib.cell_of_heap hbq]; rfl
          have t2 : wc.cell? ⟨gq, 2, none⟩ = some (.int .i64 qn) := by rw [Lib.cell_of_heap hbq]; rfl
          obtain ⟨F, hF⟩ : ∃ F, F = max pb qa := ⟨_, rfl⟩
          obtain ⟨T, hT⟩ : ∃ T, T = min (pb + pn) (qa + qn) := ⟨_, rfl⟩
          have hmx : (if pb < qa then qa else pb) = F := by rw [hF]; split <;> omega
          have hmn : (if qa + qn < pb + pn then qa + qn else pb + pn) = T := by rw [hT]; split <;> omega
          have f1 : pb ≤ F ∧ qa ≤ F ∧ F ≤ 4294967296 := by omega
          have f2 : T ≤ pb + pn ∧ T ≤ qa + qn ∧ 0 ≤ T ∧ T ≤ 8589934592 := by omega
          have HF : Hid (F = max pb qa) := hF
          have HT : Hid (T = min (pb + pn) (qa + qn)) := hT
          clear hF hT
          obtain ⟨f3, f4, f5⟩ := f1
          obtain ⟨f6, f7, f8, f9⟩ := f2
          have hb := hRr.out
          rw [bothR] at hb
          dsimp only at hb
          rw [← HF.out, ← HT.out] at hb
          have HB : Hid (Z ++ ((if F < T then [⟨pa + (F - pb), qb + (F - qa), T - F⟩] else []) ++ if T = pb + pn then bothR P (⟨qa, qb, qn⟩ :: Q) else bothR (⟨pa, pb, pn⟩ :: P) Q) = R) := (by
            show _ = _
            rw [← hb])
          clear hb hRr
          go_wp2_with fail
          go_cut [8, 9] from 10 to 74 (fun fv tv wz => fv = .int .i64 F ∧ tv = .int .i64 T ∧ wz = wc.drew)
          case first =>
            go_region
            go_wp2
            go_meet
            case rel => exact ⟨rfl, rfl, rfl⟩
          case rest =>
            obtain ⟨rfl, rfl, rfl⟩ := hcut
            clear hmx hmn r0 r1 r2 t0 t1 t2
            have r0 : wc.drew.cell? ⟨gp, 0, none⟩ = some (.int .i64 pa) := by rw [Lib.cell_of_heap (w := wc.drew) hbp]; rfl
            have r1 : wc.drew.cell? ⟨gp, 1, none⟩ = some (.int .i64 pb) := by rw [Lib.cell_of_heap (w := wc.drew) hbp]; rfl
            have r2 : wc.drew.cell? ⟨gp, 2, none⟩ = some (.int .i64 pn) := by rw [Lib.cell_of_heap (w := wc.drew) hbp]; rfl
            have t0 : wc.drew.cell? ⟨gq, 0, none⟩ = some (.int .i64 qa) := by rw [Lib.cell_of_heap (w := wc.drew) hbq]; rfl
            have t1 : wc.drew.cell? ⟨gq, 1, none⟩ = some (.int .i64 qb) := by rw [Lib.cell_of_heap (w := wc.drew) hbq]; rfl
            have hOd : wc.drew.ownsRow w.heap.size 62 3 (.slice zo Z.length zc) Z.length (rncells Z) := hOz
            have hBd : Below w.heap.size w wc.drew := Below.dN hBz 1
            have hbd : wc.drew.heap[gp]? = some (Obj.cells #[.int .i64 pa, .int .i64 pb, .int .i64 pn] 62 (0, 0)) := hbp
            clear hbp hbq
            generalize hwd : wc.drew = wd at *
            have hszd : wd.heap.size = wc.heap.size := by rw [← hwd]; rfl
            clear hwd
            go_upto_if 42 with fail
            go_cut [5] from 10 to 74 (fun kv wz => ∃ (Z2 : List Rn) (zo2 : Option Addr) (zc2 : Nat), kv = .slice zo2 Z2.length zc2 ∧ wz.ownsRow w.heap.size 62 3 (.slice zo2 Z2.length zc2) Z2.length (rncells Z2) ∧ Below w.heap.size w wz ∧ wz.heap[gp]? = some (Obj.cells #[.int .i64 pa, .int .i64 pb, .int .i64 pn] 62 (0, 0)) ∧ Z2.length ≤ Z.length + 1 ∧ Hid (Z2 ++ (if T = pb + pn then bothR P (⟨qa, qb, qn⟩ :: Q) else bothR (⟨pa, pb, pn⟩ :: P) Q) = R))
            case first =>
              by_cases hFT : F < T
              · go_wp2_with (first | (at_builtin; refine wpList_append_h _ (by kernel_rfl) (.tmp 43) (.tmp 62) 53 62 (.agg #[.int .i64 0, .int .i64 0, .int .i64 0]) 3 24 rfl Try.underlying53 infoRn rfl (by decide) (by decide) w.heap.size (.slice zo Z.length zc) Z.length (rncells Z) (by kernel_rfl) (hOd.alloc _) (.slice (some ⟨wd.heap.size, 0, none⟩) 1 1) 1 (rncells [⟨pa + (F - pb), qb + (F - qa), T - F⟩]) (by kernel_rfl) (new_holds wd _ _ 1 1 (by decide)) rfl (rncells_one _) (by omega) (by simp; omega) ?_))
                intro v2 w2 hown2 hgrow2
                have hB2 : Below w.heap.size w w2 := (hBd.alloc (by omega) _).grown hgrow2 (by simp; omega) (fun _ hj => owns_ge hOz hj)
                have hbp2 := row_not hO hgrow2 hgp ((Below.heap_alloc wd _ gp (Array.getElem?_eq_some_iff.1 hbd).1).trans hbd)
                rw [← rncells_append] at hown2
                obtain ⟨zo2, zc2, rfl⟩ := (holds_of hown2).form
                clear hgrow2
                go_wp2
                go_meet
                case rel =>
                  refine ⟨Z ++ [⟨pa + (F - pb), qb + (F - qa), T - F⟩], zo2, zc2, by rw [List.length_append]; rfl, by rw [List.length_append]; exact hown2, hB2, hbp2, by simp, ?_⟩
                  have h := HB.out
                  rw [if_pos hFT] at h
                  show _ = _
                  rw [← h]
                  simp
              · go_wp2
                go_meet
                case rel =>
                  refine ⟨Z, zo, zc, rfl, hOd, hBd, hbd, by omega, ?_⟩
                  have h := HB.out
                  rw [if_neg (Int.not_lt.2 hFT)] at h
                  exact h
            case rest =>
              obtain ⟨Z2, zo2, zc2, rfl, hO2, hB2, hb2, hZ2, HB2⟩ := hcut
              clear HB hOd hBd hbd hOz hBz hO hB r0 r1 r2 t0 t1 hszd hszz hsz f3 f4 f5 f7 HF HT q1 q2 q3 q4 q5 q6
              have e1 : wc.cell? ⟨gp, 1, none⟩ = some (.int .i64 pb) := by rw [Lib.cell_of_heap hb2]; rfl
              have e2 : wc.cell? ⟨gp, 2, none⟩ = some (.int .i64 pn) := by rw [Lib.cell_of_heap hb2]; rfl
              clear hb2
              by_cases hTp : T = pb + pn
              · have HB3 : Hid (Z2 ++ bothR P (⟨qa, qb, qn⟩ :: Q) = R) := (by have h := HB2.out; rw [if_pos hTp] at h; exact h)
                clear HB2
                have hTp' : (T == pb + pn) = true := by simp [hTp]
                clear hTp
                go_wp2
                go_roundw
                case rel => exact ⟨P, (⟨qa, qb, qn⟩ :: Q), Z2, _, _, _, _, _, _, rfl, rfl, rfl, hPt, hQ, by omega, by simp; omega, hB2, hO2, by simp; omega, ⟨fun r h => hsm.out.1 r (List.mem_cons_of_mem _ h), hsm.out.2⟩, HB3⟩
                case measure => simp [lenOf]
              · have HB3 : Hid (Z2 ++ bothR (⟨pa, pb, pn⟩ :: P) Q = R) := (by have h := HB2.out; rw [if_neg hTp] at h; exact h)
                clear HB2
                have hTp' : (T == pb + pn) = false := by simp [hTp]
                clear hTp
                go_wp2
                go_roundw
                case rel => exact ⟨(⟨pa, pb, pn⟩ :: P), Q, Z2, _, _, _, _, _, _, rfl, rfl, rfl, hP, hQt, by simp; omega, by omega, hB2, hO2, by simp; omega, ⟨hsm.out.1, fun r h => hsm.out.2 r (List.mem_cons_of_mem _ h)⟩, HB3⟩
                case measure => simp [lenOf]
end Go.Proofs.Ytppdcjjkkckokaa
