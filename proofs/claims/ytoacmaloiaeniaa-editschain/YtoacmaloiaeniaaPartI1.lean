/-
  Texts that belong together, joined: EdCo, EdRuns, EdRMk, EdCp.
-/
import Derived.Test.YtoacmaloiaeniaaPartB1
import Derived.Test.YtoacmaloiaeniaaPartF1
import Derived.Deep.CutRange
import Derived.Test.YtoacmaloiaeniaaPartA1

/- Two scripts one behind the other: both and Compose of the code, walked. -/
namespace Go.Proofs.Ytoacmaloiaeniaa
open Go.RowKit

/-- x[1:] of a slice of runs -/
theorem run_tail (X : List Rn) (r : Rn) (ao : Option Addr) (cap : Nat) (w : World) (hX : HRn w (.slice ao (r :: X).length cap) (r :: X)) :
    ∃ vo vc, (∀ u : World, (Instr.slice 60 (.slice ao (X.length + 1) cap) (some (.int .i64 1)) none none).run Try.prog u = .ok (.slice vo X.length vc) u) ∧ (∀ u : World, HRn u (.slice ao (X.length + 1) cap) (r :: X) → HRn u (.slice vo X.length vc) X) := by
  have hnc : X.length + 1 ≤ cap := by
    rcases hX with ⟨_, h3, _⟩ | ⟨ad, c, h, h3, _⟩
    · simp at h3
    · cases h; exact h3
  refine ⟨if cap = 1 then ao else ao.map (·.add 3), cap - 1, fun u => ?_, fun u hu => ?_⟩
  · rw [run_slice_l (P := Try.prog) u 60 ao (X.length + 1) cap (by kernel_rfl) .i64 1 (by omega) (by omega)]
    have : (sizeOf (Try.prog.elem 60)).run Try.prog u = .ok 3 u := by kernel_rfl
    rw [this]
    simp [Result.andThen, sliced]
  · rcases hu with ⟨h, h3, _⟩ | ⟨ad, c, h, h3, hc⟩
    · simp at h3
    · cases h
      refine .inr ⟨if cap = 1 then ad else ad.add 3, cap - 1, by split <;> simp, by omega, fun j x hj => ?_⟩
      have hl := (List.getElem?_eq_some_iff.1 hj).1
      rw [rncells_length] at hl
      rw [if_neg (by omega)]
      obtain ⟨b, off, rfl⟩ := addr_of (hc 0 (.int .i64 r.a) rfl)
      have h5 : (rncells (r :: X))[3 + j]? = some x := by
        have e : rncells (r :: X) = rnC r ++ rncells X := rfl
        rw [e, List.getElem?_append_right (by simp [rnC])]
        simp [rnC, hj]
      have := hc _ _ h5
      rw [add_none] at this
      rw [add_none, add_none, Nat.add_assoc]
      exact this

/-- how long a slice value is -/
def lenOf : Value → Nat
  | .slice _ n _ => n
  | _ => 0
theorem row_not {wr w' : World} {base : Nat} {e : TypeId} {s : Nat} {v : Value} {n : Nat} {xs : List Value} (h : wr.ownsRow base e s v n xs) {wz : World} (hg : wz.grownBy w' v.ownBlock) {k : Nat} (hk : wr.heap.size ≤ k) {o : Obj} (ho : wz.heap[k]? = some o) : w'.heap[k]? = some o := by
  refine (hg.block k (Array.getElem?_eq_some_iff.1 ho).1 (fun e => ?_)).trans ho
  rcases h.2 with ⟨rfl, _⟩ | ⟨g, cap, cur, rfl, _, h3, _⟩
  · simp [Value.ownBlock] at e
  · simp only [Value.ownBlock, Option.some.injEq] at e
    have := (Array.getElem?_eq_some_iff.1 h3).1
    omega

set_option maxRecDepth 10000 in
set_option maxHeartbeats 4000000 in
theorem both_f (X Y R : List Rn) (vx vy : Value) (w : World) (hx : HRn w vx X) (hy : HRn w vy Y) (hxl : X.length ≤ 1048577) (hyl : Y.length ≤ 1048577) (sX : Hid (∀ r ∈ X, sm r)) (sY : Hid (∀ r ∈ Y, sm r)) (hR : Hid (bothR X Y = R)) :
    Calls Try.prog 34 #[vx, vy] w fun e w' => ∃ v', e = .returned v' ∧ w'.ownsRow w.heap.size 57 3 v' R.length (rncells R) ∧ Below w.heap.size w w' := by
  obtain ⟨xo, xc, rfl⟩ := Holds.form hx
  obtain ⟨yo, yc, rfl⟩ := Holds.form hy
  go_enter Try.func34, Try.ntmps34
  go_wp2
  go_loopw [0, 1, 5] (fun xv yv kv wr => ∃ (P Q Z : List Rn) (po qo zo : Option Addr) (pc qc zc : Nat), xv = .slice po P.length pc ∧ yv = .slice qo Q.length qc ∧ kv = .slice zo Z.length zc ∧ HRn w xv P ∧ HRn w yv Q ∧ P.length ≤ X.length ∧ Q.length ≤ Y.length ∧ Below w.heap.size w wr ∧ wr.ownsRow w.heap.size 57 3 kv Z.length (rncells Z) ∧ Z.length + P.length + Q.length ≤ X.length + Y.length ∧ Hid ((∀ r ∈ P, sm r) ∧ (∀ r ∈ Q, sm r)) ∧ Hid (Z ++ bothR P Q = R)) (fun xv yv _ _ => lenOf xv + lenOf yv)
  case atStart => exact ⟨X, Y, [], xo, yo, none, xc, yc, 0, rfl, rfl, rfl, hx, hy, Nat.le_refl _, Nat.le_refl _, Below.refl _ w, World.ownsRow_nil _ _ _ _, by simp, ⟨sX.out, sY.out⟩, hR⟩
  case round =>
    obtain ⟨P, Q, Z, po, qo, zo, pc, qc, zc, rfl, rfl, rfl, hP, hQ, hPl, hQl, hB, hO, hZ, hsm, hRr⟩ := hrel
    have hsz := hB.size
    cases P with
    | nil =>
      have hR' := hRr.out
      rw [bothR, List.append_nil] at hR'
      subst hR'
      clear hRr
      simp only [List.length_nil]
      go_wp2
      go_ret
      exact ⟨_, rfl, hO, hB⟩
    | cons p P =>
      cases Q with
      | nil =>
        have hR' := hRr.out
        rw [bothR, List.append_nil] at hR'
        subst hR'
        clear hRr
        simp only [List.length_nil, List.length_cons] at *
        go_wp2
        go_ret
        exact ⟨_, rfl, hO, hB⟩
      | cons q Q =>
        obtain ⟨tpo, tpc, hst, hPt'⟩ := run_tail P p po pc w hP
        obtain ⟨tqo, tqc, hsq, hQt'⟩ := run_tail Q q qo qc w hQ
        have hPt := hPt' w hP
        have hQt := hQt' w hQ
        clear hPt' hQt'
        have hsp := hsm.out.1 p (List.mem_cons_self ..)
        have hsq' := hsm.out.2 q (List.mem_cons_self ..)
        obtain ⟨bp, op, rfl, lbp, hcp⟩ := HRn.at (HRn.keep hP hB (Nat.le_refl _)) (by simp)
        obtain ⟨bq, oq, rfl, lbq, hcq⟩ := HRn.at (HRn.keep hQ hB (Nat.le_refl _)) (by simp)
        obtain ⟨c0, c1, c2⟩ := hcp 0 (by simp)
        obtain ⟨d0, d1, d2⟩ := hcq 0 (by simp)
        simp only [List.getElem_cons_zero, Nat.zero_mul, Nat.add_zero] at c0 c1 c2 d0 d1 d2
        obtain ⟨pa, pb, pn⟩ := p
        obtain ⟨qa, qb, qn⟩ := q
        dsimp only at c0 c1 c2 d0 d1 d2
        obtain ⟨s1, s2, s3, s4, s5, s6⟩ := hsp
        obtain ⟨q1, q2, q3, q4, q5, q6⟩ := hsq'
        dsimp only at s1 s2 s3 s4 s5 s6 q1 q2 q3 q4 q5 q6
        clear hcp hcq
        simp only [List.length_cons] at hP hQ hPl hQl hZ ⊢
        go_wp2_with fail
        go_cut [6, 7] from 10 to 74 (fun pv qv wz => ∃ gp gq, pv = .pointer (some ⟨gp, 0, none⟩) ∧ qv = .pointer (some ⟨gq, 0, none⟩) ∧ wr.heap.size ≤ gp ∧ wz.heap[gp]? = some (Obj.cells #[.int .i64 pa, .int .i64 pb, .int .i64 pn] 57 (0, 0)) ∧ wz.heap[gq]? = some (Obj.cells #[.int .i64 qa, .int .i64 qb, .int .i64 qn] 57 (0, 0)) ∧ Below w.heap.size w wz ∧ wz.ownsRow w.heap.size 57 3 (.slice zo Z.length zc) Z.length (rncells Z))
        case first =>
          go_region
          · go_wp2
            go_meet
            case rel => exact ⟨wr.heap.size, wr.heap.size + 1, rfl, rfl, Nat.le_refl _, (Below.heap_alloc _ _ _ (by simp)).trans (_root_.Go.heap_alloc_new wr _), alloc_second wr _ _, Below.dN ((hB.alloc (by omega) _).alloc (by simp; omega) _) 1, (hO.alloc _).alloc _⟩
          · go_wp2
            go_meet
            case rel => exact ⟨wr.heap.size + 1, wr.heap.size, rfl, rfl, by omega, alloc_second wr _ _, (Below.heap_alloc _ _ _ (by simp)).trans (_root_.Go.heap_alloc_new wr _), Below.dN ((hB.alloc (by omega) _).alloc (by simp; omega) _) 1, (hO.alloc _).alloc _⟩
        case rest =>
          obtain ⟨gp, gq, rfl, rfl, hgp, hbp, hbq, hBz, hOz⟩ := hcut
          clear c0 c1 c2 d0 d1 d2 lbp lbq
          have hszz := hBz.size
          have r0 : wc.cell? ⟨gp, 0, none⟩ = some (.int .i64 pa) := by rw [Lib.cell_of_heap hbp]; rfl
          have r1 : wc.cell? ⟨gp, 1, none⟩ = some (.int .i64 pb) := by rw [Lib.cell_of_heap hbp]; rfl
          have r2 : wc.cell? ⟨gp, 2, none⟩ = some (.int .i64 pn) := by rw [Lib.cell_of_heap hbp]; rfl
          have t0 : wc.cell? ⟨gq, 0, none⟩ = some (.int .i64 qa) := by rw [Lib.cell_of_heap hbq]; rfl
          have t1 : wc.cell? ⟨gq, 1, none⟩ = some (.int .i64 qb) := by rw [Lib.cell_of_heap hbq]; rfl
          have t2 : wc.cell? ⟨gq, 2, none⟩ = some (.int .i64 qn) := by rw [Lib.cell_of_heap hbq]; rfl
          obtain ⟨F, hF⟩ : ∃ F, F = max pb qa := ⟨_, rfl⟩
          obtain ⟨T, hT⟩ : ∃ T, T = min (pb + pn) (qa + qn) := ⟨_, rfl⟩
          have hmx : (if pb < qa then qa else pb) = F := by rw [hF]; split <;> omega
          have hmn : (if qa + qn < pb + pn then qa + qn else pb + pn) = T := by rw [hT]; split <;> omega
          have f1 : pb ≤ F ∧ qa ≤ F ∧ F ≤ 4294967296 := by omega
          have f2 : T ≤ pb + pn ∧ T ≤ qa + qn ∧ 0 ≤ T ∧ T ≤ 8589934592 := by omega
          have HF : Hid (F = max pb qa) := hF
          have HT : Hid (T = min (pb + pn) (qa + qn)) := hT
          clear hF hT
          obtain ⟨f3, f4, f5⟩ := f1
          obtain ⟨f6, f7, f8, f9⟩ := f2
          have hb := hRr.out
          rw [bothR] at hb
          dsimp only at hb
          rw [← HF.out, ← HT.out] at hb
          have HB : Hid (Z ++ ((if F < T then [⟨pa + (F - pb), qb + (F - qa), T - F⟩] else []) ++ if T = pb + pn then bothR P (⟨qa, qb, qn⟩ :: Q) else bothR (⟨pa, pb, pn⟩ :: P) Q) = R) := (by
            show _ = _
            rw [← hb])
          clear hb hRr
          go_wp2_with fail
          go_cut [8, 9] from 10 to 74 (fun fv tv wz => fv = .int .i64 F ∧ tv = .int .i64 T ∧ wz = wc.drew)
          case first =>
            go_region
            go_wp2
            go_meet
            case rel => exact ⟨rfl, rfl, rfl⟩
          case rest =>
            obtain ⟨rfl, rfl, rfl⟩ := hcut
            clear hmx hmn r0 r1 r2 t0 t1 t2
            have r0 : wc.drew.cell? ⟨gp, 0, none⟩ = some (.int .i64 pa) := by rw [Lib.cell_of_heap (w := wc.drew) hbp]; rfl
            have r1 : wc.drew.cell? ⟨gp, 1, none⟩ = some (.int .i64 pb) := by rw [Lib.cell_of_heap (w := wc.drew) hbp]; rfl
            have r2 : wc.drew.cell? ⟨gp, 2, none⟩ = some (.int .i64 pn) := by rw [Lib.cell_of_heap (w := wc.drew) hbp]; rfl
            have t0 : wc.drew.cell? ⟨gq, 0, none⟩ = some (.int .i64 qa) := by rw [Lib.cell_of_heap (w := wc.drew) hbq]; rfl
            have t1 : wc.drew.cell? ⟨gq, 1, none⟩ = some (.int .i64 qb) := by rw [Lib.cell_of_heap (w := wc.drew) hbq]; rfl
            have hOd : wc.drew.ownsRow w.heap.size 57 3 (.slice zo Z.length zc) Z.length (rncells Z) := hOz
            have hBd : Below w.heap.size w wc.drew := Below.dN hBz 1
            have hbd : wc.drew.heap[gp]? = some (Obj.cells #[.int .i64 pa, .int .i64 pb, .int .i64 pn] 57 (0, 0)) := hbp
            clear hbp hbq
            generalize hwd : wc.drew = wd at *
            have hszd : wd.heap.size = wc.heap.size := by rw [← hwd]; rfl
            clear hwd
            go_upto_if 42 with fail
            go_cut [5] from 10 to 74 (fun kv wz => ∃ (Z2 : List Rn) (zo2 : Option Addr) (zc2 : Nat), kv = .slice zo2 Z2.length zc2 ∧ wz.ownsRow w.heap.size 57 3 (.slice zo2 Z2.length zc2) Z2.length (rncells Z2) ∧ Below w.heap.size w wz ∧ wz.heap[gp]? = some (Obj.cells #[.int .i64 pa, .int .i64 pb, .int .i64 pn] 57 (0, 0)) ∧ Z2.length ≤ Z.length + 1 ∧ Hid (Z2 ++ (if T = pb + pn then bothR P (⟨qa, qb, qn⟩ :: Q) else bothR (⟨pa, pb, pn⟩ :: P) Q) = R))
            case first =>
              by_cases hFT : F < T
              · go_wp2_with (first | (at_builtin; refine wpList_append_h _ (by kernel_rfl) (.tmp 43) (.tmp 62) 60 57 (.agg #[.int .i64 0, .int .i64 0, .int .i64 0]) 3 24 rfl Try.underlying60 infoRn rfl (by decide) (by decide) w.heap.size (.slice zo Z.length zc) Z.length (rncells Z) (by kernel_rfl) (hOd.alloc _) (.slice (some ⟨wd.heap.size, 0, none⟩) 1 1) 1 (rncells [⟨pa + (F - pb), qb + (F - qa), T - F⟩]) (by kernel_rfl) (new_holds wd _ _ 1 1 (by decide)) rfl (rncells_one _) (by omega) (by simp; omega) ?_))
                intro v2 w2 hown2 hgrow2
                have hB2 : Below w.heap.size w w2 := (hBd.alloc (by omega) _).grown hgrow2 (by simp; omega) (fun _ hj => owns_ge hOz hj)
                have hbp2 := row_not hO hgrow2 hgp ((Below.heap_alloc wd _ gp (Array.getElem?_eq_some_iff.1 hbd).1).trans hbd)
                rw [← rncells_append] at hown2
                obtain ⟨zo2, zc2, rfl⟩ := (holds_of hown2).form
                clear hgrow2
                go_wp2
                go_meet
                case rel =>
                  refine ⟨Z ++ [⟨pa + (F - pb), qb + (F - qa), T - F⟩], zo2, zc2, by rw [List.length_append]; rfl, by rw [List.length_append]; exact hown2, hB2, hbp2, by simp, ?_⟩
                  have h := HB.out
                  rw [if_pos hFT] at h
                  show _ = _
                  rw [← h]
                  simp
              · go_wp2
                go_meet
                case rel =>
                  refine ⟨Z, zo, zc, rfl, hOd, hBd, hbd, by omega, ?_⟩
                  have h := HB.out
                  rw [if_neg (Int.not_lt.2 hFT)] at h
                  exact h
            case rest =>
              obtain ⟨Z2, zo2, zc2, rfl, hO2, hB2, hb2, hZ2, HB2⟩ := hcut
              clear HB hOd hBd hbd hOz hBz hO hB r0 r1 r2 t0 t1 hszd hszz hsz f3 f4 f5 f7 HF HT q1 q2 q3 q4 q5 q6
              have e1 : wc.cell? ⟨gp, 1, none⟩ = some (.int .i64 pb) := by rw [Lib.cell_of_heap hb2]; rfl
              have e2 : wc.cell? ⟨gp, 2, none⟩ = some (.int .i64 pn) := by rw [Lib.cell_of_heap hb2]; rfl
              clear hb2
              by_cases hTp : T = pb + pn
              · have HB3 : Hid (Z2 ++ bothR P (⟨qa, qb, qn⟩ :: Q) = R) := (by have h := HB2.out; rw [if_pos hTp] at h; exact h)
                clear HB2
                have hTp' : (T == pb + pn) = true := by simp [hTp]
                clear hTp
                go_wp2
                go_roundw
                case rel => exact ⟨P, (⟨qa, qb, qn⟩ :: Q), Z2, _, _, _, _, _, _, rfl, rfl, rfl, hPt, hQ, by omega, by simp; omega, hB2, hO2, by simp; omega, ⟨fun r h => hsm.out.1 r (List.mem_cons_of_mem _ h), hsm.out.2⟩, HB3⟩
                case measure => simp [lenOf]
              · have HB3 : Hid (Z2 ++ bothR (⟨pa, pb, pn⟩ :: P) Q = R) := (by have h := HB2.out; rw [if_neg hTp] at h; exact h)
                clear HB2
                have hTp' : (T == pb + pn) = false := by simp [hTp]
                clear hTp
                go_wp2
                go_roundw
                case rel => exact ⟨(⟨pa, pb, pn⟩ :: P), Q, Z2, _, _, _, _, _, _, rfl, rfl, rfl, hP, hQt, by simp; omega, by omega, hB2, hO2, by simp; omega, ⟨hsm.out.1, fun r h => hsm.out.2 r (List.mem_cons_of_mem _ h)⟩, HB3⟩
                case measure => simp [lenOf]
end Go.Proofs.Ytoacmaloiaeniaa

/- What a script keeps, as runs: the loop over the iterator that collects them. -/
namespace Go.Proofs.Ytoacmaloiaeniaa
open Go.RowKit Go.Shelf
attribute [local go_sem] Oper.semAt_some

set_option maxRecDepth 100000 in
set_option maxHeartbeats 2000000 in
theorem runs_any (l : List Ch) (n m : Int) (v : Value) (w : World) (hl : HCh w v l) (hS : Script l n m) (hn : n ≤ 9223372036854775807) (hm : m ≤ 9223372036854775807) (hlen : l.length ≤ 1048576) :
    Calls Try.prog 35 #[v, .int .i64 n, .int .i64 m] w fun e w' => ∃ v', e = .returned v' ∧ w'.ownsRow w.heap.size 57 3 v' (piecesL 0 0 n m l).length (rncells ((piecesL 0 0 n m l).map (·.1))) ∧ Below w.heap.size w w' := by
  obtain ⟨ao, ca, rfl⟩ := Holds.form hl
  refine (callsIn_wide (n := 3)).1 ?_
  refine callsIn_of_wp_marks Try.func35 rfl trivial ?_ rfl
  simp only [Try.ntmps35, List.size_toArray, List.length_cons, List.length_nil, Nat.reduceAdd, Nat.reduceSub, Array.replicate_succ, Array.replicate_zero, List.push_toArray, List.append_toArray, List.nil_append, List.cons_append]
  gi_wp2_with (refine ⟨trivial, ?_⟩; gi_at_call 31; refine (callsIn_wide.2 (pieces_any _ _ _ _ _ _)).mono ?_; rintro e w' ⟨rfl, rfl⟩)
  obtain ⟨W0, hW0⟩ : ∃ W0, ((((w.alloc (Obj.cells #[Value.slice none 0 0] 60)).alloc (Obj.cells #[Value.slice ao l.length ca] 22)).alloc (Obj.cells #[Value.int IntKind.i64 n] 3)).alloc (Obj.cells #[Value.int IntKind.i64 m] 3)) = W0 := ⟨_, rfl⟩
  have hsz : W0.heap.size = w.heap.size + 4 := by rw [← hW0]; simp
  have hB0 : Below w.heap.size w W0 := by rw [← hW0]; exact ((((Below.refl _ w).alloc (Nat.le_refl _) _).alloc (by simp) _).alloc (by simp; omega) _).alloc (by simp; omega) _
  have bK : Boxed W0 w.heap.size 60 (.slice none 0 0) := by rw [← hW0]; exact (((Boxed.new w 60 (.slice none 0 0)).alloc _).alloc _).alloc _
  have b0 : Boxed W0 (w.heap.size + 1) 22 (.slice ao l.length ca) := by
    rw [← hW0]
    have := Boxed.new (w.alloc (Obj.cells #[Value.slice none 0 0] 60)) 22 (.slice ao l.length ca)
    rw [World.size_alloc] at this
    exact (this.alloc _).alloc _
  have b1 : Boxed W0 (w.heap.size + 1 + 1) 3 (.int .i64 n) := by
    rw [← hW0]
    have := Boxed.new ((w.alloc (Obj.cells #[Value.slice none 0 0] 60)).alloc (Obj.cells #[Value.slice ao l.length ca] 22)) 3 (.int .i64 n)
    rw [World.size_alloc, World.size_alloc] at this
    exact this.alloc _
  have b2 : Boxed W0 (w.heap.size + 1 + 1 + 1) 3 (.int .i64 m) := by
    rw [← hW0]
    have := Boxed.new (((w.alloc (Obj.cells #[Value.slice none 0 0] 60)).alloc (Obj.cells #[Value.slice ao l.length ca] 22)).alloc (Obj.cells #[Value.int IntKind.i64 n] 3)) 3 (.int .i64 m)
    rw [World.size_alloc, World.size_alloc, World.size_alloc] at this
    exact this
  rw [hW0]
  refine wpIn_rangeFunc_ownH rfl (by omega) (gf := 37) (lb := #[.pointer (some ⟨w.heap.size + 1, 0, none⟩), .pointer (some ⟨w.heap.size + 1 + 1, 0, none⟩), .pointer (some ⟨w.heap.size + 1 + 1 + 1, 0, none⟩)]) rfl trivial (enters_of Try.func37 (by kernel_rfl) rfl)
    (pieces_stops 2 (by omega) (w.heap.size + 1) w.heap.size ao ca l n m hS hn hm (by omega) W0 (by omega) (by omega) b0 b1 b2 (HCh.keep hl hB0 (Nat.le_refl _)) (fun a ha h0 => HCh.lt hl a ha h0)) Kp.trans (Kp.putObj (by omega) (by omega)) (Below.refl _ _) (fun _ => rfl)
    (fun pre W => (∃ v, OwnR w.heap.size (w.heap.size + 1) w.heap.size 60 57 3 v pre.length (rncells (pre.map (·.1.1))) W) ∧ Below w.heap.size W0 W)
    (fun _ _ _ => False)
    (ownR_own (by omega) (by omega) _ _)
    (fun _ _ _ _ _ hs _ _ => hs)
    ⟨⟨_, bK, World.ownsRow_nil _ _ _ _, fun g hg => by cases hg⟩, Below.refl _ _⟩
    (fun x a' W => ∃ Bx, W.heap[Bx]? = some (Obj.cells #[.int .i64 x.1.1.a, .int .i64 x.1.1.b, .int .i64 x.1.1.n] 57 (0, 0)) ∧ a' = { tmps := #[.slice ao l.length ca, .int .i64 n, .int .i64 m, undef, undef, undef, .slice none 0 0, .pointer (some ⟨w.heap.size, 0, none⟩), .pointer (some ⟨Bx, 0, none⟩), .slice ao l.length ca, .int .i64 n, .int .i64 m, .func (.func 37) #[] #[.pointer (some ⟨w.heap.size + 1, 0, none⟩), .pointer (some ⟨w.heap.size + 1 + 1, 0, none⟩), .pointer (some ⟨w.heap.size + 1 + 1 + 1, 0, none⟩)], rnV x.1.1, chV x.1.2, undef, undef, undef, undef, undef], defers := [] })
    ?hAx ?assign ?body ?done ?stop
  case hAx =>
    rintro x a' _ A B row ⟨Bx, hx, rfl⟩ hg hr
    refine ⟨Bx, (hg.block Bx (Array.getElem?_eq_some_iff.1 hx).1 (fun e => ?_)).trans hx, rfl⟩
    obtain ⟨_, o, ho, hc⟩ := hr Bx e.symm
    rw [hx] at ho
    cases ho
    cases hc
  case assign =>
    rintro lp pre x W K ⟨⟨v, hO⟩, hB⟩ hK
    have hs := hB.size
    simp only [rnV, chV]
    gi_wp2
    exact hK _ _ ((KeepsOthers.alloc _ _).from _) (Kp.alloc (by omega) (by omega) _) ⟨⟨v, hO.alloc _⟩, hB.alloc (by omega) _⟩ ⟨W.heap.size, _root_.Go.heap_alloc_new W _, rfl⟩
  case body =>
    rintro lp pre x a' W hlp ⟨r, hr⟩ ⟨⟨v, hO⟩, hB⟩ ⟨Bx, hx, rfl⟩ hlt
    have hs := hB.size
    have hc := hO.box.cell
    have x0 : W.cell? ⟨Bx, 0, none⟩ = some (.int .i64 x.1.1.a) := by rw [Lib.cell_of_heap hx]; rfl
    have x1 : W.cell? ⟨Bx, 1, none⟩ = some (.int .i64 x.1.1.b) := by rw [Lib.cell_of_heap hx]; rfl
    have x2 : W.cell? ⟨Bx, 2, none⟩ = some (.int .i64 x.1.1.n) := by rw [Lib.cell_of_heap hx]; rfl
    gi_wp2_with (gi_at_builtin; refine wpListIn_append_h _ rfl (.tmp 15) (.tmp 17) 60 57 rfl (.agg #[.int .i64 0, .int .i64 0, .int .i64 0]) 3 24 Try.underlying60 infoRn rfl (by decide) (by decide) w.heap.size v _ _ rfl (hO.row.alloc _) _ 1 (rncells [x.1.1]) rfl (new_holds _ _ _ _ _ (by decide)) rfl (rncells_one _) (by omega) (by simp; omega) ?_; intro v' w1 hown' hgrow hp; obtain ⟨g', cap', rfl⟩ := ownsRow_succ hown'; obtain ⟨hv1, hO2, hk2, hp2, _⟩ := (hO.alloc _).appended (by decide) (by decide) (by decide) (Nat.le_refl _) (by omega) (by simp; omega) hown' hgrow hp; have hc1 := hv1.cell; have hf1 := hv1.frozen)
    have hkp := (Kp.alloc (W := W) (n₀ := w.heap.size) (lo := w.heap.size + 1) (by omega) (by omega) _).trans hp2
    refine ⟨((KeepsOthers.alloc W _).trans hk2).from _, hkp, ⟨.slice (some ⟨g', 0, none⟩) (pre.length + 1) cap', ?_⟩, hB.trans hkp.low⟩
    rw [← rncells_append] at hO2
    simpa using hO2
  case done =>
    rintro D ys W hD hys ⟨⟨v, hO⟩, hB⟩ hK
    have hc := hO.box.cell
    gi_wp2
    refine ⟨by simp, .inl ⟨_, _, rfl, run_takeDeferred hK, ?_⟩⟩
    refine ⟨_, results_tmp rfl _ _ _, v, rfl, ?_, (hB0.trans hB).trans (belowK_b (w := w) (Nat.le_refl _) W D _ _ (by omega) hK rfl rfl)⟩
    have := ownsRow_putObj hO.row (Obj.deferred none) hK rfl
    rw [← hys]
    simpa [Function.comp_def] using this
  case stop =>
    rintro D c pre W _ _ h _
    exact h.elim
end Go.Proofs.Ytoacmaloiaeniaa

/- The reference's Make, walked. -/
namespace Go.Proofs.Ytoacmaloiaeniaa
open Go.RowKit

set_option maxRecDepth 10000 in
set_option maxHeartbeats 4000000 in
theorem rMake_f (K : List Int) (m : Int) (L : List Ch) (v : Value) (w : World) (hK : HI w v K) (hlen : K.length ≤ 1048576) (hV : Hid (Vk 0 m K)) (hm0 : 0 ≤ m) (hm : m ≤ 2147483647) (hL : Hid (mkL K m = L)) :
    Calls Try.prog 36 #[v, .int .i64 m] w fun e w' => ∃ v', e = .returned (.tuple #[v', .int .i64 0]) ∧ HCh w' v' L ∧ Below w.heap.size w w' := by
  obtain ⟨ao, ca, rfl⟩ := Holds.form hK
  go_enter Try.func36, Try.ntmps36
  go_wp2
  go_loopw [6, 7] (fun lv iv wr => ∃ (k : Nat) (la : Int), k ≤ K.length ∧ lv = .int .i64 la ∧ iv = .int .i64 (k : Int) ∧ -1 ≤ la ∧ la ≤ m ∧ w = wr ∧ Hid (Vk (la + 1) m (K.drop k))) (fun _ iv _ => K.length - (intOf iv).toNat)
  case atStart => exact ⟨0, -1, Nat.zero_le _, rfl, rfl, by omega, by omega, rfl, hV⟩
  case round =>
    obtain ⟨k, la, hk, rfl, rfl, hl0, hl1, rfl, hR⟩ := hrel
    by_cases hlt : k < K.length
    · obtain ⟨bk, off, rfl, hbk, hc⟩ := HI.at hK (by omega)
      have c0 := hc k hlt
      have hR' := hR.out
      rw [List.drop_eq_getElem_cons hlt] at hR'
      obtain ⟨z, hzd⟩ : ∃ z, K[k] = z := ⟨_, rfl⟩
      rw [hzd] at hR' c0
      clear hc hzd hR
      have i1 : 0 ≤ (k : Int) := by omega
      have i2 : (k : Int) < (K.length : Int) := by omega
      by_cases hz : z = -1
      · subst hz
        have HR : Hid (Vk (la + 1) m (K.drop (k + 1))) := (by
          rcases hR' with ⟨_, h1⟩ | ⟨h1, _⟩
          · exact h1
          · exact absurd rfl h1)
        clear hR'
        go_wp2
        go_roundw
        case rel => exact ⟨k + 1, la, by omega, rfl, by go_num, hl0, hl1, by first | rfl | trivial, HR⟩
        case measure => simp [intOf]; omega
      · have hq : la + 1 ≤ z ∧ z < m ∧ Vk (z + 1) m (K.drop (k + 1)) := by
          rcases hR' with ⟨h1, _⟩ | ⟨_, h1⟩
          · exact absurd h1 hz
          · exact h1
        obtain ⟨q1, q2, q3⟩ := hq
        have HR : Hid (Vk (z + 1) m (K.drop (k + 1))) := q3
        clear hR' q3
        have hz2 : decide (z = -1) = false := decide_eq_false hz
        have n1 : ¬ z ≤ la := by omega
        have n2 : ¬ m ≤ z := by omega
        go_wp2
        go_roundw
        case rel => exact ⟨k + 1, z, by omega, rfl, by go_num, by omega, by omega, by first | rfl | trivial, HR⟩
        case measure => simp [intOf]; omega
    · have n0 : ¬ m < 0 := by omega
      have i2 : ¬ (k : Int) < (K.length : Int) := by omega
      clear hR
      go_wp2
      go_loopw [8, 9, 10, 11] (fun ov av bv iv wr => ∃ (k : Nat) (a b : Int) (X : List Ch), k ≤ K.length + 1 ∧ (∃ oo oc, ov = .slice oo X.length oc) ∧ av = .int .i64 a ∧ bv = .int .i64 b ∧ iv = .int .i64 (k : Int) ∧ 0 ≤ a ∧ a ≤ k ∧ 0 ≤ b ∧ b ≤ m + 1 ∧ St w 51 4 ov X.length (chcells X) wr ∧ X.length ≤ k ∧ Hid ((k ≤ K.length → Vk b m (K.drop k) ∧ b ≤ m ∧ X ++ betw a b (keptR k (K.drop k) ++ [⟨K.length, m, 0⟩]) = L) ∧ (k = K.length + 1 → X = L))) (fun _ _ _ iv _ => K.length + 1 - (intOf iv).toNat)
      case atStart => exact ⟨0, 0, 0, [], Nat.zero_le _, ⟨_, _, rfl⟩, rfl, rfl, rfl, by omega, by omega, by omega, by omega, ⟨World.ownsRow_nil _ _ _ _, Below.refl _ w⟩, Nat.zero_le _, ⟨fun _ => ⟨hV.out, hm0, hL.out⟩, fun h => by omega⟩⟩
      case round =>
        clear hlt i2 hk
        obtain ⟨k, a, b, X, hk, ⟨oo, oc, rfl⟩, rfl, rfl, rfl, ha0, ha1, hb0, hb1, hSt, hX, hR⟩ := hrel
        have hsz := hSt.low.size
        by_cases hlt : k < K.length
        · obtain ⟨bk, off, rfl, hbk, hc⟩ := HI.at (HI.keep hK hSt.low (Nat.le_refl _)) (by omega)
          have c0 := hc k hlt
          have hR' := hR.out.1 (by omega)
          rw [List.drop_eq_getElem_cons hlt] at hR'
          obtain ⟨z, hzd⟩ : ∃ z, K[k] = z := ⟨_, rfl⟩
          rw [hzd] at hR' c0
          clear hc hzd hR
          have i1 : 0 ≤ (k : Int) := by omega
          have i2 : (k : Int) < (K.length : Int) := by omega
          have i3 : (k : Int) ≤ (K.length : Int) := by omega
          by_cases hz : z = -1
          · subst hz
            have HR : Hid ((k + 1 ≤ K.length → Vk b m (K.drop (k + 1)) ∧ b ≤ m ∧ X ++ betw a b (keptR (k + 1 : Nat) (K.drop (k + 1)) ++ [⟨K.length, m, 0⟩]) = L) ∧ (k + 1 = K.length + 1 → X = L)) := (by
              obtain ⟨h1, h2, h3⟩ := hR'
              rw [keptR, if_pos rfl] at h3
              rcases h1 with ⟨_, h1⟩ | ⟨h1, _⟩
              · exact ⟨fun _ => ⟨h1, h2, h3⟩, fun h => by omega⟩
              · exact absurd rfl h1)
            clear hR'
            go_wp2
            go_roundw
            case rel => exact ⟨k + 1, a, b, X, by omega, ⟨_, _, rfl⟩, rfl, rfl, by go_num, ha0, by omega, hb0, hb1, hSt, by omega, HR⟩
            case measure => simp [intOf]; omega
          · have hq : b ≤ z ∧ z < m ∧ Vk (z + 1) m (K.drop (k + 1)) := by
              rcases hR'.1 with ⟨h1, _⟩ | ⟨_, h1⟩
              · exact absurd h1 hz
              · exact h1
            obtain ⟨q1, q2, q3⟩ := hq
            have hz2 : decide (z = -1) = false := decide_eq_false hz
            have h3 := hR'.2.2
            rw [keptR, if_neg hz, List.cons_append, betw] at h3
            dsimp only at h3
            clear hR'
            by_cases hcd : a < (k : Int) ∨ b < z
            · rw [if_pos hcd] at h3
              have HR : Hid ((k + 1 ≤ K.length → Vk (z + 1) m (K.drop (k + 1)) ∧ z + 1 ≤ m ∧ X ++ [⟨a, (k : Int) - a, b, z - b⟩] ++ betw ((k : Int) + 1) (z + 1) (keptR (k + 1 : Nat) (K.drop (k + 1)) ++ [⟨K.length, m, 0⟩]) = L) ∧ (k + 1 = K.length + 1 → X ++ [⟨a, (k : Int) - a, b, z - b⟩] = L)) := ⟨fun _ => ⟨q3, by omega, by rw [← h3]; simp⟩, fun h => by omega⟩
              clear h3 q3
              by_cases hak : a < (k : Int)
              · have n5 : decide (a < (k : Int)) = true := decide_eq_true hak
                go_wp2_with (at_builtin; refine wpList_append_h _ (by kernel_rfl) (.tmp 69) (.tmp 79) 22 51 (.agg #[.int .i64 0, .int .i64 0, .int .i64 0, .int .i64 0]) 4 32 rfl Try.underlying22 infoCh rfl (by decide) (by decide) w.heap.size _ _ _ rfl (hSt.own.alloc _) _ 1 (chcells [⟨a, (k : Int) - a, b, z - b⟩]) rfl (new_holds _ _ _ _ _ (by decide)) rfl (chcells_one _) (by omega) (by simp; omega) ?_)
                intro v2 w2 hown2 hgrow2
                have hSt2 := (st_alloc (Obj.cells #[Value.int IntKind.i64 a, Value.int IntKind.i64 ((k : Int) - a), Value.int IntKind.i64 b, Value.int IntKind.i64 (z - b)] 51) hSt).grown hown2 hgrow2
                obtain ⟨oo2, oc2, rfl⟩ := (holds_of hown2).form
                rw [← chcells_append] at hSt2
                clear hown2 hgrow2 c0
                go_wp2
                go_roundw
                case rel => exact ⟨k + 1, (k : Int) + 1, z + 1, X ++ [⟨a, (k : Int) - a, b, z - b⟩], by omega, ⟨_, _, by rw [List.length_append]; rfl⟩, by go_num, by go_num, by go_num, by omega, by omega, by omega, by omega, by rw [List.length_append]; exact hSt2, by simp; omega, HR⟩
                case measure => simp [intOf]; omega
              · have n6 : b < z := by omega
                go_wp2_with (at_builtin; refine wpList_append_h _ (by kernel_rfl) (.tmp 69) (.tmp 79) 22 51 (.agg #[.int .i64 0, .int .i64 0, .int .i64 0, .int .i64 0]) 4 32 rfl Try.underlying22 infoCh rfl (by decide) (by decide) w.heap.size _ _ _ rfl (hSt.own.alloc _) _ 1 (chcells [⟨a, (k : Int) - a, b, z - b⟩]) rfl (new_holds _ _ _ _ _ (by decide)) rfl (chcells_one _) (by omega) (by simp; omega) ?_)
                intro v2 w2 hown2 hgrow2
                have hSt2 := (st_alloc (Obj.cells #[Value.int IntKind.i64 a, Value.int IntKind.i64 ((k : Int) - a), Value.int IntKind.i64 b, Value.int IntKind.i64 (z - b)] 51) hSt).grown hown2 hgrow2
                obtain ⟨oo2, oc2, rfl⟩ := (holds_of hown2).form
                rw [← chcells_append] at hSt2
                clear hown2 hgrow2 c0
                go_wp2
                go_roundw
                case rel => exact ⟨k + 1, (k : Int) + 1, z + 1, X ++ [⟨a, (k : Int) - a, b, z - b⟩], by omega, ⟨_, _, by rw [List.length_append]; rfl⟩, by go_num, by go_num, by go_num, by omega, by omega, by omega, by omega, by rw [List.length_append]; exact hSt2, by simp; omega, HR⟩
                case measure => simp [intOf]; omega
            · rw [if_neg hcd] at h3
              have HR : Hid ((k + 1 ≤ K.length → Vk (z + 1) m (K.drop (k + 1)) ∧ z + 1 ≤ m ∧ X ++ betw ((k : Int) + 1) (z + 1) (keptR (k + 1 : Nat) (K.drop (k + 1)) ++ [⟨K.length, m, 0⟩]) = L) ∧ (k + 1 = K.length + 1 → X = L)) := ⟨fun _ => ⟨q3, by omega, h3⟩, fun h => by omega⟩
              clear h3 q3
              have n3 : ¬ a < (k : Int) := by omega
              have n4 : ¬ b < z := by omega
              go_wp2
              go_roundw
              case rel => exact ⟨k + 1, (k : Int) + 1, z + 1, X, by omega, ⟨_, _, rfl⟩, by go_num, by go_num, by go_num, by omega, by omega, by omega, by omega, hSt, by omega, HR⟩
              case measure => simp [intOf]; omega
        · by_cases hke : k = K.length
          · have hR' := (hR.out.1 (by omega)).2
            rw [List.drop_of_length_le (by omega), keptR, List.nil_append, betw, betw] at hR'
            dsimp only at hR'
            have HKE : Hid (k = K.length) := hke
            have i2 : ¬ (k : Int) < (K.length : Int) := by omega
            have i3 : (k : Int) ≤ (K.length : Int) := by omega
            have hz2 : decide (m = -1) = false := decide_eq_false (by omega)
            obtain ⟨hbm, h3⟩ := hR'
            rw [← hke] at h3
            clear hR hke
            by_cases hcd : a < (k : Int) ∨ b < m
            · rw [if_pos hcd] at h3
              have HR : Hid ((k + 1 ≤ K.length → Vk (m + 1) m (K.drop (k + 1)) ∧ m + 1 ≤ m ∧ X ++ [⟨a, (k : Int) - a, b, m - b⟩] ++ betw ((k : Int) + 1) (m + 1) (keptR (k + 1 : Nat) (K.drop (k + 1)) ++ [⟨K.length, m, 0⟩]) = L) ∧ (k + 1 = K.length + 1 → X ++ [⟨a, (k : Int) - a, b, m - b⟩] = L)) := ⟨fun h => by have := HKE.out; omega, fun _ => h3⟩
              clear h3
              by_cases hak : a < (k : Int)
              · have n5 : decide (a < (k : Int)) = true := decide_eq_true hak
                go_wp2_with (at_builtin; refine wpList_append_h _ (by kernel_rfl) (.tmp 69) (.tmp 79) 22 51 (.agg #[.int .i64 0, .int .i64 0, .int .i64 0, .int .i64 0]) 4 32 rfl Try.underlying22 infoCh rfl (by decide) (by decide) w.heap.size _ _ _ rfl (hSt.own.alloc _) _ 1 (chcells [⟨a, (k : Int) - a, b, m - b⟩]) rfl (new_holds _ _ _ _ _ (by decide)) rfl (chcells_one _) (by omega) (by simp; omega) ?_)
                intro v2 w2 hown2 hgrow2
                have hSt2 := (st_alloc (Obj.cells #[Value.int IntKind.i64 a, Value.int IntKind.i64 ((k : Int) - a), Value.int IntKind.i64 b, Value.int IntKind.i64 (m - b)] 51) hSt).grown hown2 hgrow2
                obtain ⟨oo2, oc2, rfl⟩ := (holds_of hown2).form
                rw [← chcells_append] at hSt2
                clear hown2 hgrow2
                go_wp2
                go_roundw
                case rel => exact ⟨k + 1, (k : Int) + 1, m + 1, X ++ [⟨a, (k : Int) - a, b, m - b⟩], by omega, ⟨_, _, by rw [List.length_append]; rfl⟩, by go_num, by go_num, by go_num, by omega, by omega, by omega, by omega, by rw [List.length_append]; exact hSt2, by simp; omega, HR⟩
                case measure => simp [intOf]; omega
              · have n6 : b < m := by omega
                go_wp2_with (at_builtin; refine wpList_append_h _ (by kernel_rfl) (.tmp 69) (.tmp 79) 22 51 (.agg #[.int .i64 0, .int .i64 0, .int .i64 0, .int .i64 0]) 4 32 rfl Try.underlying22 infoCh rfl (by decide) (by decide) w.heap.size _ _ _ rfl (hSt.own.alloc _) _ 1 (chcells [⟨a, (k : Int) - a, b, m - b⟩]) rfl (new_holds _ _ _ _ _ (by decide)) rfl (chcells_one _) (by omega) (by simp; omega) ?_)
                intro v2 w2 hown2 hgrow2
                have hSt2 := (st_alloc (Obj.cells #[Value.int IntKind.i64 a, Value.int IntKind.i64 ((k : Int) - a), Value.int IntKind.i64 b, Value.int IntKind.i64 (m - b)] 51) hSt).grown hown2 hgrow2
                obtain ⟨oo2, oc2, rfl⟩ := (holds_of hown2).form
                rw [← chcells_append] at hSt2
                clear hown2 hgrow2
                go_wp2
                go_roundw
                case rel => exact ⟨k + 1, (k : Int) + 1, m + 1, X ++ [⟨a, (k : Int) - a, b, m - b⟩], by omega, ⟨_, _, by rw [List.length_append]; rfl⟩, by go_num, by go_num, by go_num, by omega, by omega, by omega, by omega, by rw [List.length_append]; exact hSt2, by simp; omega, HR⟩
                case measure => simp [intOf]; omega
            · rw [if_neg hcd] at h3
              have HR : Hid ((k + 1 ≤ K.length → Vk (m + 1) m (K.drop (k + 1)) ∧ m + 1 ≤ m ∧ X ++ betw ((k : Int) + 1) (m + 1) (keptR (k + 1 : Nat) (K.drop (k + 1)) ++ [⟨K.length, m, 0⟩]) = L) ∧ (k + 1 = K.length + 1 → X = L)) := ⟨fun h => by have := HKE.out; omega, fun _ => by rw [← h3]; simp⟩
              clear h3
              have n3 : ¬ a < (k : Int) := by omega
              have n4 : ¬ b < m := by omega
              go_wp2
              go_roundw
              case rel => exact ⟨k + 1, (k : Int) + 1, m + 1, X, by omega, ⟨_, _, rfl⟩, by go_num, by go_num, by go_num, by omega, by omega, by omega, by omega, hSt, by omega, HR⟩
              case measure => simp [intOf]; omega
          · obtain rfl : k = K.length + 1 := by omega
            obtain rfl := hR.out.2 rfl
            have i2 : ¬ ((K.length : Int) + 1) ≤ (K.length : Int) := by omega
            go_wp2
            go_ret2
            exact ⟨_, rfl, holds_of hSt.own, hSt.low⟩
end Go.Proofs.Ytoacmaloiaeniaa

/- Two scripts one behind the other: Compose of the code and of the reference, walked. -/
namespace Go.Proofs.Ytoacmaloiaeniaa
open Go.RowKit

theorem both_len (X Y : List Rn) : (bothR X Y).length ≤ X.length + Y.length := by
  induction X, Y using bothR.induct with
  | case1 Y => rw [bothR]; simp
  | case2 p x => rw [bothR]; simp
  | case3 p x q y ih1 ih2 =>
    rw [bothR, List.length_append]
    have hh : (if max p.b q.a < min (p.b + p.n) (q.a + q.n) then [(⟨p.a + (max p.b q.a - p.b), q.b + (max p.b q.a - q.a), min (p.b + p.n) (q.a + q.n) - max p.b q.a⟩ : Rn)] else []).length ≤ 1 := by split <;> simp
    have hg : (if min (p.b + p.n) (q.a + q.n) = p.b + p.n then bothR x (q :: y) else bothR (p :: x) y).length ≤ x.length + y.length + 1 := by
      simp only [List.length_cons] at ih1 ih2
      split <;> omega
    simp only [List.length_cons]
    omega
/-- all numbers from 0 to B -/
def sb (B : Int) (r : Rn) : Prop := 0 ≤ r.a ∧ r.a ≤ B ∧ 0 ≤ r.b ∧ r.b ≤ B ∧ 0 ≤ r.n ∧ r.n ≤ B
theorem both_sb (B : Int) (X Y : List Rn) (hX : ∀ r ∈ X, sb B r) (hY : ∀ r ∈ Y, sb B r) : ∀ r ∈ bothR X Y, sb (2 * B) r := by
  induction X, Y using bothR.induct with
  | case1 Y => rw [bothR]; simp
  | case2 p x => rw [bothR]; simp
  | case3 p x q y ih1 ih2 =>
    intro r hr
    rw [bothR, List.mem_append] at hr
    rcases hr with hr | hr
    · split at hr
      · rw [List.mem_singleton] at hr
        subst hr
        obtain ⟨h1, h2, h3, h4, h5, h6⟩ := hX p (List.mem_cons_self ..)
        obtain ⟨g1, g2, g3, g4, g5, g6⟩ := hY q (List.mem_cons_self ..)
        unfold sb
        dsimp only
        refine ⟨?_, ?_, ?_, ?_, ?_, ?_⟩ <;> omega
      · simp at hr
    · split at hr
      · exact ih1 (fun r h => hX r (List.mem_cons_of_mem _ h)) hY r hr
      · exact ih2 hX (fun r h => hY r (List.mem_cons_of_mem _ h)) r hr
theorem pieces_len (a b n m : Int) (l : List Ch) : (piecesL a b n m l).length = l.length + 1 := by
  induction l generalizing a b with
  | nil => simp [piecesL]
  | cons c l ih => simp [piecesL, ih]
theorem pieces_pc {f : Bool} {a b n m : Int} {l : List Ch} (h : Right f a b n m l) (ha : 0 ≤ a) (hb : 0 ≤ b) : ∀ x ∈ piecesL a b n m l, Pc n m x := by
  induction l generalizing a b f with
  | nil =>
    intro x hx
    rw [piecesL, List.mem_singleton] at hx
    subst hx
    exact h.pcEnd ha hb
  | cons c l ih =>
    intro x hx
    rw [piecesL, List.mem_cons] at hx
    rcases hx with rfl | hx
    · exact h.pc ha hb
    · obtain ⟨⟨h1, h2, h3, h4⟩, h5⟩ := h
      rw [numB_iff] at h1
      exact ih h5 (by omega) (by omega) x hx
theorem rns_sb {x : List Ch} {n m B : Int} (h : Script x n m) (hn : n ≤ B) (hm : m ≤ B) : ∀ r ∈ rns 0 0 n m x, sb B r := by
  intro r hr
  unfold rns at hr
  obtain ⟨p, hp, rfl⟩ := List.mem_map.1 hr
  obtain ⟨h1, h2, h3, h4, h5, h6, h7, h8, h9, h10⟩ := pieces_pc h.2.2 (Int.le_refl _) (Int.le_refl _) p hp
  unfold sb
  omega

theorem Compose_f (x y L : List Ch) (n m k : Int) (vx vy : Value) (w : World) (hx : HCh w vx x) (hy : HCh w vy y) (hX : Hid (Script x n m)) (hY : Hid (Script y m k)) (hn : n ≤ 65536) (hm : m ≤ 65536) (hk : k ≤ 65536) (hxl : x.length ≤ 1048576) (hyl : y.length ≤ 1048576) (hL : Hid (compS x y n m k = L)) :
    Calls Try.prog 23 #[vx, vy, .int .i64 n, .int .i64 m, .int .i64 k] w fun e w' => ∃ v', e = .returned (.tuple #[v', .int .i64 0]) ∧ HCh w' v' L ∧ Below w.heap.size w w' := by
  obtain ⟨xo, xc, rfl⟩ := Holds.form hx
  obtain ⟨yo, yc, rfl⟩ := Holds.form hy
  obtain ⟨X, hXe⟩ : ∃ X, rns 0 0 n m x = X := ⟨_, rfl⟩
  obtain ⟨Y, hYe⟩ : ∃ Y, rns 0 0 m k y = Y := ⟨_, rfl⟩
  have hXl : Hid (X.length = x.length + 1) := (by show _ = _; rw [← hXe]; unfold rns; rw [List.length_map, pieces_len])
  have hYl : Hid (Y.length = y.length + 1) := (by show _ = _; rw [← hYe]; unfold rns; rw [List.length_map, pieces_len])
  have sX := rns_sb hX.out hn hm
  have sY := rns_sb hY.out hm hk
  rw [hXe] at sX
  rw [hYe] at sY
  have sXY := both_sb _ _ _ sX sY
  obtain ⟨R, hR⟩ : ∃ R, bothR X Y = R := ⟨_, rfl⟩
  have hRl : R.length ≤ x.length + 1 + (y.length + 1) := by rw [← hR, ← hXl.out, ← hYl.out]; exact both_len X Y
  rw [hR] at sXY
  have HR : Hid (bothR X Y = R) := hR
  have HsX : Hid (∀ r ∈ X, sm r) := fun r h => by have := sX r h; unfold sb at this; unfold sm; omega
  have HsY : Hid (∀ r ∈ Y, sm r) := fun r h => by have := sY r h; unfold sb at this; unfold sm; omega
  have HN : Hid (∀ c ∈ L, numB c = true) := fun c hc => by
    rw [← hL.out] at hc
    exact (comp_script hX.out hY.out (by omega) (by omega)).1.2.2.num c hc
  obtain ⟨RS, hRS⟩ : ∃ RS, R ++ [⟨n, k, 0⟩] = RS := ⟨_, rfl⟩
  have h0 := hX.out.1
  have h1 := hY.out.2.1
  have HRS : Hid (R ++ [⟨n, k, 0⟩] = RS) := hRS
  have Hs : Hid (∀ r ∈ RS, sm r) := fun r h => by
    rw [← hRS, List.mem_append, List.mem_singleton] at h
    rcases h with h | rfl
    · have := sXY r h
      unfold sb at this
      unfold sm
      omega
    · unfold sm
      dsimp only
      omega
  have HL : Hid (betw 0 0 RS = L) := (by
    show _ = _
    rw [← hL.out, ← hRS, ← hR, ← hXe, ← hYe]
    rfl)
  have HX1 : Hid ((piecesL 0 0 n m x).length = X.length ∧ (piecesL 0 0 n m x).map (·.1) = X) := ⟨by rw [← hXe]; unfold rns; simp, hXe⟩
  have HY1 : Hid ((piecesL 0 0 m k y).length = Y.length ∧ (piecesL 0 0 m k y).map (·.1) = Y) := ⟨by rw [← hYe]; unfold rns; simp, hYe⟩
  clear hXe hYe sX sY sXY hR hRS
  go_enter Try.func23, Try.ntmps23
  go_wp2_with fail
  refine (Check_f x n m 0 _ w hx (by omega) (by omega) (by omega) (chk_ok hX.out)).mono ?_
  rintro e w1 ⟨rfl, hB1⟩
  go_wp2_with fail
  have hy1 := HCh.keep hy hB1 (Nat.le_refl _)
  refine (Check_f y m k 0 _ w1 hy1 (by omega) (by omega) (by omega) (chk_ok hY.out)).mono ?_
  rintro e w2 ⟨rfl, hB2⟩
  have hB2' := hB1.trans (hB2.mono hB1.size)
  go_wp2_with fail
  have hx2 := HCh.keep hx hB2' (Nat.le_refl _)
  refine (runs_any x n m _ w2 hx2 hX.out (by omega) (by omega) hxl).mono ?_
  rintro e w3 ⟨vX, rfl, hO3, hB3⟩
  rw [HX1.out.1, HX1.out.2] at hO3
  have hB3' := hB2'.trans (hB3.mono hB2'.size)
  obtain ⟨Xo, Xc, rfl⟩ := (holds_of hO3).form
  go_wp2_with fail
  have hy3 := HCh.keep hy hB3' (Nat.le_refl _)
  refine (runs_any y m k _ w3 hy3 hY.out (by omega) (by omega) hyl).mono ?_
  rintro e w4 ⟨vY, rfl, hO4, hB4⟩
  rw [HY1.out.1, HY1.out.2] at hO4
  have hB4' := hB3'.trans (hB4.mono hB3'.size)
  obtain ⟨Yo, Yc, rfl⟩ := (holds_of hO4).form
  have hX4 : HRn w4 (.slice Xo X.length Xc) X := HRn.keep (holds_of hO3) hB4 (Nat.le_refl _)
  go_wp2_with fail
  refine (both_f X Y R _ _ w4 hX4 (holds_of hO4) (by have := hXl.out; omega) (by have := hYl.out; omega) HsX HsY HR).mono ?_
  rintro e w5 ⟨vR, rfl, hO5, hB5⟩
  have hB5' := hB4'.trans (hB5.mono hB4'.size)
  have hs5 := hB5.size
  obtain ⟨Ro, Rc, rfl⟩ := (holds_of hO5).form
  go_wp2_with fail
  refine (between_f R RS L n k _ w4.heap.size w5 hs5 hO5 (by omega) HRS HL Hs HN).mono ?_
  rintro e w6 ⟨vL, rfl, hL6, hB6⟩
  obtain ⟨Lo, Lc, rfl⟩ := Holds.form hL6
  have hB6' := hB5'.trans (hB6.mono hB4'.size)
  go_wp2
  go_ret2
  exact ⟨_, rfl, hL6, hB6'⟩

theorem Compose_no (x y : List Ch) (n m k : Int) (vx vy : Value) (w : World) (hx : HCh w vx x) (hy : HCh w vy y) (hS : ¬ (Script x n m ∧ Script y m k)) (hn : n ≤ 65536) (hm : m ≤ 65536) (hk : k ≤ 65536) (hxl : x.length ≤ 1048576) (hyl : y.length ≤ 1048576) :
    Calls Try.prog 23 #[vx, vy, .int .i64 n, .int .i64 m, .int .i64 k] w fun e w' => e = .returned (.tuple #[.slice none 0 0, .int .i64 50]) ∧ Below w.heap.size w w' := by
  obtain ⟨xo, xc, rfl⟩ := Holds.form hx
  obtain ⟨yo, yc, rfl⟩ := Holds.form hy
  by_cases hX : Script x n m
  · have hY : ¬ Script y m k := fun h => hS ⟨hX, h⟩
    have HX : Hid (Script x n m) := hX
    have HY : Hid (¬ Script y m k) := hY
    clear hS hX hY
    go_enter Try.func23, Try.ntmps23
    go_wp2_with fail
    refine (Check_f x n m 0 _ w hx (by omega) (by omega) (by omega) (chk_ok HX.out)).mono ?_
    rintro e w1 ⟨rfl, hB1⟩
    go_wp2_with fail
    refine (Check_f y m k 50 _ w1 (HCh.keep hy hB1 (Nat.le_refl _)) (by omega) (by omega) (by omega) (chk_no HY.out)).mono ?_
    rintro e w2 ⟨rfl, hB2⟩
    have hB2' := hB1.trans (hB2.mono hB1.size)
    go_wp2
    go_ret2
    exact ⟨rfl, hB2'⟩
  · have HX : Hid (¬ Script x n m) := hX
    clear hS hX
    go_enter Try.func23, Try.ntmps23
    go_wp2_with fail
    refine (Check_f x n m 50 _ w hx (by omega) (by omega) (by omega) (chk_no HX.out)).mono ?_
    rintro e w1 ⟨rfl, hB1⟩
    go_wp2
    go_ret2
    exact ⟨rfl, hB1⟩
end Go.Proofs.Ytoacmaloiaeniaa
