/-
  Texts that belong together, joined: EfSp, EfM3, EfRu, EfRw.
-/
import Derived.Test.YtnlbjknfahhfaaaGreatDoorPartC5
import Derived.Test.YtnlbjknfahhfaaaGreatDoorPartC2
import Derived.Test.YtnlbjknfahhfaaaGreatDoorPartA18

/- The editor's putFurther and step of layer 13, walked. -/
set_option maxRecDepth 20000
namespace Go.Proofs.YtnlbjknfahhfaaaGreatDoor
open Go.RowKit

theorem EdQ.form {W : World} {g : Nat} {vs : Value} {S : List (List UInt8)} {B : Nat} {r : Except (Nat × Int) (List (List UInt8) × Nat × Bool × Nat)} {e : Ending} {w : World} (h : EdQ W g vs S B r e w) : ∃ z, e = .returned (.int .i64 z) := by
  unfold EdQ at h
  split at h
  · exact ⟨_, h.1⟩
  · exact ⟨_, h.1⟩
theorem EdQ.more {W : World} {g : Nat} {vs : Value} {S : List (List UInt8)} {B B' : Nat} {r : Except (Nat × Int) (List (List UInt8) × Nat × Bool × Nat)} {e : Ending} {w : World} (h : EdQ W g vs S B r e w) (hB : B ≤ B') : EdQ W g vs S B' r e w := by
  unfold EdQ at h ⊢
  split at h
  · exact h
  · obtain ⟨h1, vl, X, h2, h3, h4⟩ := h
    exact ⟨h1, vl, X, h2, h3, by omega⟩
set_option maxRecDepth 10000 in
set_option maxHeartbeats 8000000 in
theorem putFur_f (W : World) (g : Nat) (vs vl : Value) (S : List (List UInt8)) (p : Nat) (X : List Bck) (cur : Nat) (en : Bool) (w : World) (hE : Ed W g vs S p vl X cur en w) (hS : S.length ≤ 274877906944) (HTS : Hid (∀ s ∈ S, s.length ≤ 1099511627776)) (hp1 : p < S.length) (hX : X.length ≤ 549755813888) (hT : (cat X).length ≤ 137438953472)
    (r : Except (Nat × Int) (List (List UInt8) × Nat × Bool × Nat)) (HR : Hid ((if cur = 0 then .error (p + 1, 130) else doR (cat X) cur cur en (txR (p + 1) (S.drop (p + 1)))) = r)) :
    Calls Tryz.prog 53 #[.pointer (some ⟨g, 0, none⟩)] w fun e w' => EdQ W g vs S (512 * X.length + (cat X).length + S.length) r e w' := by
  obtain ⟨_, _, _, _, c4, _⟩ := hE.box.cells
  by_cases h0 : cur = 0
  · have hr := HR.out
    rw [if_pos h0] at hr
    subst hr
    subst h0
    go_enter Tryz.func53, Tryz.ntmps53
    go_wp2
    go_ret
    exact ⟨rfl, by decide, _, _, _, _, _, rfl, hE⟩
  · have hc0 : ((cur : Int) == 0) = false := beq_eq_false_iff_ne.2 (by omega)
    have hr := HR.out
    rw [if_neg h0] at hr
    have hdo := edo_f W g vs vl S p X cur en (w.drewN 1) (hE.keep (Below.dN (Below.refl _ w) 1)) hS HTS hp1 hX hT cur cur true (Nat.le_refl _) hE.hc _ rfl
    have hdo2 : Calls Tryz.prog 55 (#[.pointer (some ⟨g, 0, none⟩), .agg #[.int .i64 (cur : Int), .int .i64 (cur : Int), .bool true]] ++ #[]) (w.drewN 1) fun e w' => ∃ v, e = .returned v ∧ True ∧ (∃ z, v = .int .i64 z ∧ EdQ W g vs S (512 * X.length + (cat X).length + S.length) r (.returned (.int .i64 z)) w') := (by
      refine hdo.mono ?_
      intro e w' hq
      obtain ⟨z, rfl⟩ := hq.form
      refine ⟨_, rfl, trivial, z, rfl, ?_⟩
      rw [← hr]
      exact hq)
    have c4d : (w.drewN 1).cell? ⟨g, 4, none⟩ = some (.int .i64 (cur : Int)) := c4
    clear hdo hr HR hE
    go_enter Tryz.func53, Tryz.ntmps53
    go_wp2_with fail
    refine wp_region_noPanic ?_
    refine wp_region_held_drew (S := fun _ => True) (by kernel_rfl) trivial (fun _ => ?_)
    refine go_take 0 8 _ (.pointer (some ⟨g, 0, none⟩)) rfl (by kernel_rfl) (by kernel_rfl) (by kernel_rfl) (by kernel_rfl) (fun _ _ _ h => h) (Or.inl ⟨by kernel_rfl, fun u _ => by kernel_rfl⟩) trivial ?_
    simp only [Act.put, List.setIfInBounds_toArray, List.set_cons_zero, List.set_cons_succ]
    refine go_take 1 9 _ (.pointer (some ⟨g, 0, none⟩)) rfl (by kernel_rfl) (by kernel_rfl) (by kernel_rfl) (by kernel_rfl) (fun _ _ _ h => h) (Or.inl ⟨by kernel_rfl, fun u _ => by kernel_rfl⟩) trivial ?_
    simp only [Act.put, List.setIfInBounds_toArray, List.set_cons_zero, List.set_cons_succ]
    refine go_take 2 10 _ (.pointer (some ⟨g, 0, none⟩)) rfl (by kernel_rfl) (by kernel_rfl) (by kernel_rfl) (by kernel_rfl) (fun _ _ _ h => h) (Or.inl ⟨by kernel_rfl, fun u _ => by kernel_rfl⟩) trivial ?_
    simp only [Act.put, List.setIfInBounds_toArray, List.set_cons_zero, List.set_cons_succ]
    refine go_take 3 11 _ (.pointer (some ⟨g, 4, none⟩)) rfl (by kernel_rfl) (by kernel_rfl) (by kernel_rfl) (by kernel_rfl) (fun _ _ _ h => h) (Or.inl ⟨by kernel_rfl, fun u _ => by kernel_rfl⟩) trivial ?_
    simp only [Act.put, List.setIfInBounds_toArray, List.set_cons_zero, List.set_cons_succ]
    refine go_take 5 13 _ (.pointer (some ⟨g, 0, none⟩)) rfl (by kernel_rfl) (by kernel_rfl) (by kernel_rfl) (by kernel_rfl) (fun _ _ _ h => h) (Or.inl ⟨by kernel_rfl, fun u _ => by kernel_rfl⟩) trivial ?_
    simp only [Act.put, List.setIfInBounds_toArray, List.set_cons_zero, List.set_cons_succ]
    refine go_take 6 14 _ (.pointer (some ⟨g, 0, none⟩)) rfl (by kernel_rfl) (by kernel_rfl) (by kernel_rfl) (by kernel_rfl) (fun _ _ _ h => h) (Or.inl ⟨by kernel_rfl, fun u _ => by kernel_rfl⟩) trivial ?_
    simp only [Act.put, List.setIfInBounds_toArray, List.set_cons_zero, List.set_cons_succ]
    refine go_take 7 15 _ (.pointer (some ⟨g, 4, none⟩)) rfl (by kernel_rfl) (by kernel_rfl) (by kernel_rfl) (by kernel_rfl) (fun _ _ _ h => h) (Or.inl ⟨by kernel_rfl, fun u _ => by kernel_rfl⟩) trivial ?_
    simp only [Act.put, List.setIfInBounds_toArray, List.set_cons_zero, List.set_cons_succ]
    refine ef_two 4 12 _ 8 16 _ rfl (by kernel_rfl) rfl (by kernel_rfl) (by kernel_rfl) (by kernel_rfl) (by kernel_rfl) (.int .i64 (cur : Int)) _ (load_int c4d (.tmp 11) (by kernel_rfl) (by kernel_rfl)) trivial (.int .i64 (cur : Int)) _ (load_int c4d (.tmp 15) (by kernel_rfl) (by kernel_rfl)) trivial ?_ ?_
    · simp only [Act.put, List.setIfInBounds_toArray, List.set_cons_zero, List.set_cons_succ]
      refine go_val 8 16 _ rfl (by kernel_rfl) (by kernel_rfl) (by kernel_rfl) (.int .i64 (cur : Int)) _ (load_int c4d (.tmp 15) (by kernel_rfl) (by kernel_rfl)) trivial ?_
      simp only [Act.put, List.setIfInBounds_toArray, List.set_cons_zero, List.set_cons_succ]
      refine go_take 9 17 _ (.agg #[.int .i64 (cur : Int), .int .i64 (cur : Int), .bool true]) rfl (by kernel_rfl) (by kernel_rfl) (by kernel_rfl) (by kernel_rfl) (fun _ _ _ h => h) (Or.inl ⟨by kernel_rfl, fun u _ => by kernel_rfl⟩) trivial ?_
      simp only [Act.put, List.setIfInBounds_toArray, List.set_cons_zero, List.set_cons_succ]
      refine go_callE 10 18 _ rfl (by kernel_rfl) (by kernel_rfl) (by kernel_rfl) 55 (.func 55) #[.tmp 8, .tmp 17] #[106, 109] (by kernel_rfl) #[] (by kernel_rfl) #[.pointer (some ⟨g, 0, none⟩), .agg #[.int .i64 (cur : Int), .int .i64 (cur : Int), .bool true]] (by kernel_rfl) (enters_of Tryz.func55 (by kernel_rfl) rfl) _ hdo2 ?_
      rintro _ w2 _ ⟨z, rfl, HQ⟩
      simp only [Act.put, List.setIfInBounds_toArray, List.set_cons_zero, List.set_cons_succ]
      refine go_take 11 2 _ (.int .i64 z) rfl (by kernel_rfl) (by kernel_rfl) (by kernel_rfl) (by kernel_rfl) (fun _ _ _ h => h) (Or.inl ⟨by kernel_rfl, fun u _ => by kernel_rfl⟩) trivial ?_
      simp only [Act.put, List.setIfInBounds_toArray, List.set_cons_zero, List.set_cons_succ]
      refine wpAnyH_done (by kernel_rfl) ?_ _
      refine NoPanic.normal ?_
      go_wp2
      go_ret
      exact HQ
    · simp only [Act.put, List.setIfInBounds_toArray, List.set_cons_zero, List.set_cons_succ]
      refine go_val 4 12 _ rfl (by kernel_rfl) (by kernel_rfl) (by kernel_rfl) (.int .i64 (cur : Int)) _ (load_int c4d (.tmp 11) (by kernel_rfl) (by kernel_rfl)) trivial ?_
      simp only [Act.put, List.setIfInBounds_toArray, List.set_cons_zero, List.set_cons_succ]
      refine go_take 9 17 _ (.agg #[.int .i64 (cur : Int), .int .i64 (cur : Int), .bool true]) rfl (by kernel_rfl) (by kernel_rfl) (by kernel_rfl) (by kernel_rfl) (fun _ _ _ h => h) (Or.inl ⟨by kernel_rfl, fun u _ => by kernel_rfl⟩) trivial ?_
      simp only [Act.put, List.setIfInBounds_toArray, List.set_cons_zero, List.set_cons_succ]
      refine go_callE 10 18 _ rfl (by kernel_rfl) (by kernel_rfl) (by kernel_rfl) 55 (.func 55) #[.tmp 8, .tmp 17] #[106, 109] (by kernel_rfl) #[] (by kernel_rfl) #[.pointer (some ⟨g, 0, none⟩), .agg #[.int .i64 (cur : Int), .int .i64 (cur : Int), .bool true]] (by kernel_rfl) (enters_of Tryz.func55 (by kernel_rfl) rfl) _ hdo2 ?_
      rintro _ w2 _ ⟨z, rfl, HQ⟩
      simp only [Act.put, List.setIfInBounds_toArray, List.set_cons_zero, List.set_cons_succ]
      refine go_take 11 2 _ (.int .i64 z) rfl (by kernel_rfl) (by kernel_rfl) (by kernel_rfl) (by kernel_rfl) (fun _ _ _ h => h) (Or.inl ⟨by kernel_rfl, fun u _ => by kernel_rfl⟩) trivial ?_
      simp only [Act.put, List.setIfInBounds_toArray, List.set_cons_zero, List.set_cons_succ]
      refine wpAnyH_done (by kernel_rfl) ?_ _
      refine NoPanic.normal ?_
      go_wp2
      go_ret
      exact HQ
/-- what the next line comes to -/
def sdR (p : Nat) (s : List UInt8) (r T : List (List UInt8)) (cur : Nat) (en : Bool) : Except (Nat × Int) (List (List UInt8) × Nat × Bool × Nat) := match sdE p s r T cur en with
  | .error e => .error e
  | .ok (T1, c1, e1, q, _) => .ok (T1, c1, e1, q)
theorem sdR_do {p : Nat} {s : List UInt8} {r T : List (List UInt8)} {cur a b : Nat} {tx : Bool} (hf : fdB s = true) (hm : s.dropLast ≠ mkB) (h : stE p s.dropLast r T cur = dodE T a b tx (p + 1) r) : sdR p s r T cur false = doR T a b false (doE tx (p + 1) r) := by
  unfold sdR sdE
  rw [if_pos hf, if_neg (by decide), if_neg hm, h]
  unfold dodE doR
  cases doE tx (p + 1) r with
  | error e => rfl
  | ok x => rfl
set_option maxRecDepth 10000 in
set_option maxHeartbeats 16000000 in
theorem step_f (W : World) (g : Nat) (vs vl : Value) (S : List (List UInt8)) (p : Nat) (X : List Bck) (cur : Nat) (en : Bool) (w : World) (hE : Ed W g vs S p vl X cur en w) (hS : S.length ≤ 274877906944) (HTS : Hid (∀ s ∈ S, s.length ≤ 1099511627776)) (hp1 : p < S.length) (hX : X.length ≤ 549755813888) (hT : (cat X).length ≤ 137438953472)
    (r : Except (Nat × Int) (List (List UInt8) × Nat × Bool × Nat)) (HR : Hid (sdR p S[p] (S.drop (p + 1)) (cat X) cur en = r)) :
    Calls Tryz.prog 31 #[.pointer (some ⟨g, 0, none⟩)] w fun e w' => EdQ W g vs S (512 * X.length + (cat X).length + S.length) r e w' := by
  have HE : Hid (Ed W g vs S p vl X cur en w) := hE
  clear hE
  cases hf : fdB S[p] with
  | false =>
    have HNX : Hid (nxE S p = ([], 3)) := (by show _ = _; unfold nxE; rw [dif_pos hp1, if_neg (by rw [hf]; decide)])
    have hr := HR.out
    unfold sdR sdE at hr
    rw [if_neg (by rw [hf]; decide)] at hr
    subst hr
    clear HR hf
    go_enter Tryz.func31, Tryz.ntmps31
    go_wp2_with fail
    refine (eline_f W g vs vl S p X cur en w HE.out (by omega) HTS [] 3 HNX).mono ?_
    rintro e w1 ⟨rfl, hb1⟩
    have HE1 : Hid (Ed W g vs S p vl X cur en w1) := HE.out.keep hb1
    go_wp2
    go_ret
    exact ⟨rfl, by decide, _, _, _, _, _, rfl, HE1.out⟩
  | true =>
    have hts := HTS.out S[p] (List.getElem_mem _)
    obtain ⟨t, ht⟩ : ∃ t, S[p].dropLast = t := ⟨_, rfl⟩
    have htl : t.length ≤ 1099511627776 := by rw [← ht, List.length_dropLast]; omega
    have HNX : Hid (nxE S p = (t, 0)) := (by show _ = _; unfold nxE; rw [dif_pos hp1, if_pos hf, ht])
    have HDO : Hid (∀ (a b : Nat) (tx : Bool), t ≠ mkB → stE p t (S.drop (p + 1)) (cat X) cur = dodE (cat X) a b tx (p + 1) (S.drop (p + 1)) → en = false → doR (cat X) a b false (doE tx (p + 1) (S.drop (p + 1))) = r) := (by
      intro a b tx h1 h2 h3
      rw [← HR.out, h3]
      exact (sdR_do hf (by rw [ht]; exact h1) (by rw [ht]; exact h2)).symm)
    have HRR : Hid ((if en = true then .error (p + 1, 7) else if t = mkB then .ok (cat X, cur, true, p + 1) else match stE p t (S.drop (p + 1)) (cat X) cur with
        | .error e => .error e
        | .ok (T1, c1, q, _) => .ok (T1, c1, false, q)) = r) := (by
      show _ = _
      rw [← HR.out]
      unfold sdR sdE
      rw [if_pos hf, ht]
      cases en with
      | true => rfl
      | false =>
        simp only [Bool.false_eq_true, if_false]
        by_cases hm : t = mkB
        · rw [if_pos hm, if_pos hm]
        · rw [if_neg hm, if_neg hm]
          cases stE p t (S.drop (p + 1)) (cat X) cur with
          | error e => rfl
          | ok x => rfl)
    clear hf ht HR hts
    have hln := eline_f W g vs vl S p X cur en w HE.out (by omega) HTS t 0 HNX
    cases en with
    | true =>
      have hr := HRR.out
      rw [if_pos rfl] at hr
      subst hr
      clear HRR HDO
      go_enter Tryz.func31, Tryz.ntmps31
      go_wp2_with fail
      refine hln.mono ?_
      rintro e w1 ⟨rfl, hb1⟩
      have HE1 : Hid (Ed W g vs S p vl X cur true w1) := HE.out.keep hb1
      obtain ⟨_, _, _, _, _, c5⟩ := HE1.out.box.cells
      go_wp2
      go_ret
      exact ⟨rfl, by decide, _, _, _, _, _, rfl, HE1.out⟩
    | false =>
      by_cases h1 : t = mkB
      · have hr := HRR.out
        rw [if_neg (by decide), if_pos h1] at hr
        subst hr
        unfold mkB at h1
        subst h1
        clear HRR HDO
        go_enter Tryz.func31, Tryz.ntmps31
        go_wp2_with fail
        refine hln.mono ?_
        rintro e w1 ⟨rfl, hb1⟩
        have HE1 : Hid (Ed W g vs S p vl X cur false w1) := HE.out.keep hb1
        have HE2 : Hid (Ed W g vs S p vl X cur true (w1.setCell ⟨g, 5, none⟩ (.bool true))) := HE1.out.setE
        have HE3 : Hid (Ed W g vs S (p + 1) vl X cur true ((w1.setCell ⟨g, 5, none⟩ (.bool true)).setCell ⟨g, 1, none⟩ (.int .i64 ((p : Int) + 1)))) := HE2.out.setP (p + 1) (by omega) _ (by omega)
        obtain ⟨_, _, _, _, _, c5⟩ := HE1.out.box.cells
        have f5 := HE1.out.box.frozen 5
        obtain ⟨_, d1, _, _, _, _⟩ := HE2.out.box.cells
        have f1 := HE2.out.box.frozen 1
        go_wp2
        go_ret
        exact ⟨rfl, _, X, HE3.out, rfl, by omega⟩
      · have k1 : (t == [92, 32, 78, 111, 32, 110, 101, 119, 108, 105, 110, 101, 32, 97, 116, 32, 101, 110, 100, 32, 111, 102, 32, 102, 105, 108, 101]) = false := beq_eq_false_iff_ne.2 h1
        have hr0 := HRR.out
        rw [if_neg (by decide), if_neg h1] at hr0
        by_cases h2 : t = shB
        · have hr2 : (if cur = 0 ∨ (cat X).getD (cur - 1) [] = [] then .error (p + 1, 130) else .ok ((cat X).set (cur - 1) ((cat X).getD (cur - 1) []).tail, cur, false, p + 1)) = r := (by
            rw [← hr0]
            unfold stE
            rw [if_pos h2]
            split <;> rfl)
          have HR2 : Hid ((if cur = 0 ∨ (cat X).getD (cur - 1) [] = [] then .error (p + 1, 130) else .ok ((cat X).set (cur - 1) ((cat X).getD (cur - 1) []).tail, cur, false, p + 1)) = r) := hr2
          unfold shB at h2
          subst h2
          clear HRR HDO hr0 hr2 h1 k1
          go_enter Tryz.func31, Tryz.ntmps31
          go_wp2_with fail
          refine hln.mono ?_
          rintro e w1 ⟨rfl, hb1⟩
          have HE1 : Hid (Ed W g vs S p vl X cur false w1) := HE.out.keep hb1
          obtain ⟨_, _, _, _, _, c5⟩ := HE1.out.box.cells
          go_wp2_with fail
          refine (cutCur_f W g vs vl S p X cur false w1 HE1.out (by omega) hp1 hX (by omega) r HR2).mono ?_
          intro e w2 hq
          obtain ⟨z, rfl⟩ := hq.form
          have HQ : Hid (EdQ W g vs S (512 * X.length + (cat X).length + S.length) r (.returned (.int .i64 z)) w2) := hq.more (by omega)
          clear hq
          go_wp2
          go_ret
          exact HQ.out
        · have k2 : (t == [115, 47, 46, 47, 47]) = false := beq_eq_false_iff_ne.2 h2
          by_cases h3 : t = [97]
          · have HR2 : Hid ((if cur = 0 then .error (p + 1, 130) else doR (cat X) cur cur false (txR (p + 1) (S.drop (p + 1)))) = r) := (by
              show _ = _
              rw [← hr0]
              unfold stE
              rw [if_neg h2, if_pos h3]
              split
              · rfl
              · unfold dodE doE doR
                rw [if_pos rfl]
                cases txR (p + 1) (S.drop (p + 1)) with
                | error e => rfl
                | ok x => rfl)
            subst h3
            clear HRR HDO hr0 h1 k1 h2 k2
            go_enter Tryz.func31, Tryz.ntmps31
            go_wp2_with fail
            refine hln.mono ?_
            rintro e w1 ⟨rfl, hb1⟩
            have HE1 : Hid (Ed W g vs S p vl X cur false w1) := HE.out.keep hb1
            obtain ⟨_, _, _, _, _, c5⟩ := HE1.out.box.cells
            go_wp2_with fail
            refine (putFur_f W g vs vl S p X cur false w1 HE1.out hS HTS hp1 hX hT r HR2).mono ?_
            intro e w2 hq
            obtain ⟨z, rfl⟩ := hq.form
            have HQ : Hid (EdQ W g vs S (512 * X.length + (cat X).length + S.length) r (.returned (.int .i64 z)) w2) := hq
            clear hq
            go_wp2
            go_ret
            exact HQ.out
          · have k3 : (t == [97]) = false := beq_eq_false_iff_ne.2 h3
            have HR2 : Hid ((match cmF t with
                | none => .error (p + 1, 3)
                | some (i, j, tx) => if ((cat X).length : Int) < j then .error (p + 1, 2) else doR (cat X) i.toNat j.toNat false (doE tx (p + 1) (S.drop (p + 1)))) = r) := (by
              show _ = _
              rw [← hr0]
              unfold stE
              rw [if_neg h2, if_neg h3]
              cases cmF t with
              | none => rfl
              | some x =>
                obtain ⟨i, j, tx⟩ := x
                dsimp only
                split
                · rfl
                · unfold dodE doR
                  cases doE tx (p + 1) (S.drop (p + 1)) with
                  | error e => rfl
                  | ok x => rfl)
            clear HRR HDO hr0 h1 h2 h3
            go_enter Tryz.func31, Tryz.ntmps31
            go_wp2_with fail
            refine hln.mono ?_
            rintro e w1 ⟨rfl, hb1⟩
            have HE1 : Hid (Ed W g vs S p vl X cur false w1) := HE.out.keep hb1
            obtain ⟨_, _, _, _, _, c5⟩ := HE1.out.box.cells
            go_wp2_with fail
            refine (commandFrom_f t w1 (by omega)).mono ?_
            rintro e w2 ⟨x, y, tx, rb, rfl, hcm, hxy, hb2⟩
            have HE2 : Hid (Ed W g vs S p vl X cur false w2) := HE1.out.keep hb2
            have hr2 := HR2.out
            rw [hcm] at hr2
            cases rb with
            | false =>
              have HR3 : Hid (.error (p + 1, 3) = r) := hr2
              have hbB : Below w2.heap.size w2 (w2.alloc (.cells #[.int .i64 x, .int .i64 y, .bool tx] 109)) := (Below.refl _ w2).alloc (Nat.le_refl _) _
              have HE3 : Hid (Ed W g vs S p vl X cur false (w2.alloc (.cells #[.int .i64 x, .int .i64 y, .bool tx] 109))) := HE2.out.keep hbB
              clear hr2 hcm
              go_wp2
              go_ret
              have hr3 := HR3.out
              subst hr3
              exact ⟨rfl, by decide, _, _, _, _, _, rfl, HE3.out⟩
            | true =>
              rw [if_pos rfl] at hcm hr2
              have hbd := cmF_bd hcm
              dsimp only at hr2
              obtain ⟨a, rfl⟩ := Int.eq_ofNat_of_zero_le hbd.1
              obtain ⟨b, rfl⟩ := Int.eq_ofNat_of_zero_le (by omega : 0 ≤ y)
              rw [Int.toNat_natCast, Int.toNat_natCast] at hr2
              have hbB : Below w2.heap.size w2 (w2.alloc (.cells #[.int .i64 (a : Int), .int .i64 (b : Int), .bool tx] 109)) := (Below.refl _ w2).alloc (Nat.le_refl _) _
              have hCb : Cb (w2.alloc (.cells #[.int .i64 (a : Int), .int .i64 (b : Int), .bool tx] 109)) w2.heap.size (.int .i64 (a : Int)) (.int .i64 (b : Int)) (.bool tx) := _root_.Go.heap_alloc_new w2 _
              obtain ⟨w3, hw3⟩ : ∃ w3, w2.alloc (.cells #[.int .i64 (a : Int), .int .i64 (b : Int), .bool tx] 109) = w3 := ⟨_, rfl⟩
              rw [hw3] at hbB hCb
              have HE3 : Hid (∀ n, Ed W g vs S p vl X cur false (w3.drewN n)) := fun n => (HE2.out.keep hbB).keep (Below.dN (Below.refl _ w3) n)
              obtain ⟨q0, q1, q2⟩ := hCb.cells
              obtain ⟨_, _, _, d3, _, _⟩ := (HE3.out 0).box.cells
              have d3' : w3.cell? ⟨g, 3, none⟩ = some (.int .i64 ((cat X).length : Int)) := d3
              obtain ⟨tl, htl⟩ : ∃ tl, (cat X).length = tl := ⟨_, rfl⟩
              rw [htl] at d3' hr2
              have HTL : Hid ((cat X).length = tl) := htl
              clear hcm htl d3
              by_cases hlt : tl < b
              · have HR3 : Hid (.error (p + 1, 2) = r) := (by
                  show _ = _
                  rw [if_pos (by omega)] at hr2
                  exact hr2)
                have l1 : (tl : Int) < (b : Int) := by omega
                clear hr2
                go_wp2_with fail
                go_quiet (fail)
                go_wp2
                go_ret
                have hr3 := HR3.out
                subst hr3
                exact ⟨rfl, by decide, _, _, _, _, _, rfl, HE3.out _⟩
              · have HR3 : Hid (doR (cat X) a b false (doE tx (p + 1) (S.drop (p + 1))) = r) := (by
                  show _ = _
                  rw [if_neg (by omega)] at hr2
                  exact hr2)
                have l1 : decide ((tl : Int) < (b : Int)) = false := decide_eq_false (by omega)
                clear hr2
                go_wp2_with fail
                go_quiet (fail)
                have hab : a ≤ b := by omega
                have hbT : b ≤ (cat X).length := by have := HTL.out; omega
                have q0' : (w3.drewN nq).cell? ⟨w2.heap.size, 0, none⟩ = some (.int .i64 (a : Int)) := q0
                have q1' : (w3.drewN nq).cell? ⟨w2.heap.size, 1, none⟩ = some (.int .i64 (b : Int)) := q1
                have q2' : (w3.drewN nq).cell? ⟨w2.heap.size, 2, none⟩ = some (.bool tx) := q2
                go_wp2_with fail
                refine (edo_f W g vs vl S p X cur false _ (HE3.out _) hS HTS hp1 hX hT a b tx hab hbT _ rfl).mono ?_
                intro e w4 hq
                rw [HR3.out] at hq
                obtain ⟨z, rfl⟩ := hq.form
                have HQ : Hid (EdQ W g vs S (512 * X.length + (cat X).length + S.length) r (.returned (.int .i64 z)) w4) := hq
                clear hq
                go_wp2
                go_ret
                exact HQ.out
end Go.Proofs.YtnlbjknfahhfaaaGreatDoor

/- What a command's step does to sizes, and where it goes on; plain mathematics. -/
set_option maxRecDepth 20000
namespace Go.Proofs.YtnlbjknfahhfaaaGreatDoor
open Ln

def Bd (T : List (List UInt8)) : Prop := ∀ s ∈ T, s.length ≤ 1099511627776
theorem cmF_le {s : List UInt8} {i j : Int} {t : Bool} (h : cmF s = some (i, j, t)) : i ≤ j := by
  have key : ∀ {x : List UInt8} {p n : Int}, lnsP x = some (p, n) → 1 ≤ n := by
    intro x p n h
    unfold lnsP at h
    split at h
    · split at h
      · cases h
        omega
      · cases h
    · split at h
      · cases h
        omega
      · cases h
  unfold cmF at h
  split at h
  · cases h
  · split at h
    · split at h
      · cases h
        exact Int.le_refl _
      · cases h
    · split at h
      · split at h
        · cases h
        · rename_i p n hq
          have := key hq
          cases h
          omega
      · split at h
        · split at h
          · cases h
          · rename_i p n hq
            have := key hq
            cases h
            omega
        · cases h
theorem txR_bd : ∀ {r : List (List UInt8)} {p q : Nat} {l r2 : List (List UInt8)}, Bd r → txR p r = .ok (l, q, r2) → Bd l ∧ l.length + p < q
  | [], p, q, l, r2, _, h => by cases h
  | s :: r, p, q, l, r2, hb, h => by
    simp only [txR] at h
    split at h
    · split at h
      · cases h
        exact ⟨fun s hs => (by cases hs), by simp⟩
      · split at h
        · cases h
        · rename_i l' q' r' h'
          cases h
          have ih := txR_bd (fun x hx => hb x (by simp [hx])) h'
          refine ⟨fun x hx => ?_, by simp only [List.length_cons]; omega⟩
          rcases List.mem_cons.1 hx with rfl | hx
          · have := hb s (by simp)
            rw [List.length_dropLast]
            omega
          · exact ih.1 x hx
    · cases h
theorem dod_bd {T r T1 r2 : List (List UInt8)} {i j : Nat} {tx : Bool} {p c1 q : Nat} (hT : Bd T) (hr : Bd r) (hij : i ≤ j) (h : dodE T i j tx p r = .ok (T1, c1, q, r2)) : Bd T1 ∧ p ≤ q ∧ T1.length + p ≤ T.length + q ∧ r2 = r.drop (q - p) := by
  unfold dodE doE at h
  split at h
  · cases h
  · rename_i l q' r' h'
    cases h
    have hput : ∀ x ∈ putE T i j l, x ∈ T ∨ x ∈ l := by
      intro x hx
      unfold putE at hx
      rcases List.mem_append.1 hx with hx | hx
      · exact .inl (List.mem_of_mem_take hx)
      · rcases List.mem_append.1 hx with hx | hx
        · exact .inr hx
        · exact .inl (List.mem_of_mem_drop hx)
    have hlen : (putE T i j l).length ≤ T.length + l.length := by
      unfold putE
      simp only [List.length_append, List.length_take, List.length_drop]
      omega
    split at h'
    · obtain ⟨h1, h2⟩ := txR_bd hr h'
      have h3 := txR_drop h'
      exact ⟨fun x hx => (hput x hx).elim (hT x) (h1 x), h3.1, by omega, h3.2⟩
    · cases h'
      exact ⟨fun x hx => (hput x hx).elim (hT x) (fun hq => by cases hq), Nat.le_refl _, by simp at hlen; omega, by simp⟩
theorem sd_bd {p : Nat} {s : List UInt8} {r T T1 r2 : List (List UInt8)} {cur c1 q : Nat} {en e1 : Bool} (hT : Bd T) (hr : Bd r) (h : sdE p s r T cur en = .ok (T1, c1, e1, q, r2)) : Bd T1 ∧ p < q ∧ T1.length + p ≤ T.length + q ∧ r2 = r.drop (q - (p + 1)) := by
  unfold sdE at h
  split at h
  · split at h
    · cases h
    · split at h
      · cases h
        exact ⟨hT, by omega, by omega, by simp⟩
      · split at h
        · cases h
        · rename_i T2 c2 q2 r3 hs
          cases h
          unfold stE at hs
          split at hs
          · split at hs
            · cases hs
            · cases hs
              refine ⟨fun x hx => ?_, by omega, by rw [List.length_set]; omega, by simp⟩
              rcases List.mem_or_eq_of_mem_set hx with hx | rfl
              · exact hT x hx
              · rw [List.length_tail]
                by_cases hc : cur - 1 < T.length
                · rw [List.getD_eq_getElem?_getD, List.getElem?_eq_getElem hc]
                  have := hT T[cur - 1] (List.getElem_mem _)
                  simp only [Option.getD_some]
                  omega
                · rw [List.getD_eq_getElem?_getD, List.getElem?_eq_none (by omega)]
                  simp
          · split at hs
            · split at hs
              · cases hs
              · obtain ⟨h1, h2, h3, h4⟩ := dod_bd hT hr (Nat.le_refl _) hs
                exact ⟨h1, by omega, by omega, h4⟩
            · split at hs
              · cases hs
              · rename_i i j tx hcm
                split at hs
                · cases hs
                · have hb := cmF_le hcm
                  obtain ⟨h1, h2, h3, h4⟩ := dod_bd hT hr (by omega) hs
                  exact ⟨h1, by omega, by omega, h4⟩
  · cases h
/-- what is there with k line feeds -/
def resK (T : List (List UInt8)) (k : Nat) : List (List UInt8) := (T.take k).map (· ++ [10]) ++ T.drop k
theorem resK_len (T : List (List UInt8)) (k : Nat) : (resK T k).length = T.length := by
  unfold resK
  simp only [List.length_append, List.length_map, List.length_take, List.length_drop]
  omega
theorem resK_get (T : List (List UInt8)) (k : Nat) (h : k < T.length) : (resK T k)[k]'(by rw [resK_len]; exact h) = T[k] := by
  unfold resK
  rw [List.getElem_append_right (by simp; omega)]
  simp [Nat.min_eq_left (Nat.le_of_lt h)]
theorem resK_set (T : List (List UInt8)) (k : Nat) (h : k < T.length) : (resK T k).set k (T[k] ++ [10]) = resK T (k + 1) := by
  have l1 : ((T.take k).map (· ++ [10])).length = k := by rw [List.length_map, List.length_take]; omega
  unfold resK
  rw [List.set_append_right _ _ (by omega), l1, Nat.sub_self, List.drop_eq_getElem_cons h, List.set_cons_zero, List.take_succ_eq_append_getElem h, List.map_append]
  simp
theorem resK_res (T : List (List UInt8)) (en : Bool) : resE T en = resK T (T.length - (if en = true then 1 else 0)) := rfl
end Go.Proofs.YtnlbjknfahhfaaaGreatDoor

/- The code's Run of layer 13, walked. -/
set_option maxRecDepth 20000
namespace Go.Proofs.YtnlbjknfahhfaaaGreatDoor
open Go.RowKit

theorem HB.of_own {w : World} {B : Nat} {v : Value} {T : List (List UInt8)} (h : w.ownsRow B 9 1 v T.length (scells T)) (h0 : T ≠ []) : ∃ G cap, v = .slice (some ⟨G, 0, none⟩) T.length cap ∧ HB w B ⟨G, 0, cap, T⟩ := by
  have hc := h
  rcases h.2 with ⟨_, q⟩ | ⟨g, cap, cur, rfl, q2, q3, q4, _⟩
  · exact absurd (List.eq_nil_of_length_eq_zero q) h0
  · refine ⟨g, cap, rfl, q2, q4, cur, q3, fun j hj => ?_⟩
    dsimp only at hj ⊢
    have h1 := hc.cells (g := g) rfl j (.string ⟨T[j].toArray⟩) (by simp [scells, hj])
    rw [add_none, Lib.cell_of_heap q3] at h1
    exact h1
set_option maxRecDepth 10000 in
set_option maxHeartbeats 4000000 in
theorem result_f (W : World) (g : Nat) (vs vl : Value) (S : List (List UInt8)) (p : Nat) (X : List Bck) (cur : Nat) (en : Bool) (w : World) (hE : Ed W g vs S p vl X cur en w) (hX : X.length ≤ 549755813888) (hT : (cat X).length ≤ 137438953472) (HBd : Hid (Bd (cat X))) :
    Calls Tryz.prog 32 #[.pointer (some ⟨g, 0, none⟩)] w fun e w' => ∃ v, e = .returned v ∧ HS w' v (resE (cat X) en) ∧ Below w.heap.size w w' := by
  have hal := all_f w g _ vs vl _ _ _ en X hE.box hE.bks hX (by omega)
  have HE : Hid (Ed W g vs S p vl X cur en w) := hE
  clear hE
  obtain ⟨T, hTd⟩ : ∃ T, cat X = T := ⟨_, rfl⟩
  rw [hTd] at hal hT HBd ⊢
  clear hTd
  have HRS : Hid (resE T en = resK T (T.length - (if en = true then 1 else 0))) := resK_res T en
  rw [HRS.out]
  by_cases h0 : T = []
  · subst h0
    go_enter Tryz.func32, Tryz.ntmps32
    go_wp2_with fail
    refine hal.mono ?_
    rintro e w1 ⟨v, rfl, hO, hB1⟩
    obtain ⟨_, _, _, _, _, c5⟩ := (HE.out.keep hB1).box.cells
    have hH := holds_of hO
    obtain ⟨vo, vc, rfl⟩ := Holds.form hH
    have HH : Hid (HS w1 (.slice vo 0 vc) []) := hH
    clear hO hH
    cases en with
    | true =>
      go_wp2
      go_loopw [23] (fun i wr => i = .int .i64 0 ∧ w1 = wr) (fun _ _ => 0)
      case atStart => exact ⟨by go_num, rfl⟩
      case round =>
        obtain ⟨rfl, rfl⟩ := hrel
        go_wp2
        go_ret
        exact ⟨_, rfl, HH.out, hB1⟩
    | false =>
      go_wp2
      go_loopw [23] (fun i wr => i = .int .i64 0 ∧ w1 = wr) (fun _ _ => 0)
      case atStart => exact ⟨by go_num, rfl⟩
      case round =>
        obtain ⟨rfl, rfl⟩ := hrel
        go_wp2
        go_ret
        exact ⟨_, rfl, HH.out, hB1⟩
  · have hpos : 0 < T.length := List.length_pos_iff.2 h0
    obtain ⟨F, hF⟩ : ∃ F, T.length - (if en = true then 1 else 0) = F := ⟨_, rfl⟩
    have hFe : (en = true → (T.length : Int) - 1 = (F : Int)) ∧ (en = false → T.length = F) := ⟨fun q => by rw [q, if_pos rfl] at hF; omega, fun q => by rw [q, if_neg (by decide)] at hF; omega⟩
    have hFl : F ≤ T.length := by omega
    rw [hF]
    clear hF
    obtain ⟨n, hn⟩ : ∃ n, T.length = n := ⟨_, rfl⟩
    have HNN : Hid (T.length = n) := hn
    have hp2 : (0 : Int) < (n : Int) := by omega
    rw [hn] at hpos hFe hFl hT
    clear hn
    have key : ∀ (w1 : World) (G cap : Nat), Below w.heap.size w w1 → HB w1 w.heap.size ⟨G, 0, cap, T⟩ → Hid (HB w1 w.heap.size ⟨G, 0, cap, resK T 0⟩) := fun w1 G cap _ h => by show HB _ _ _; simpa [resK] using h
    cases en with
    | true =>
      have hF1 := hFe.1 rfl
      clear hFe
      go_enter Tryz.func32, Tryz.ntmps32
      go_wp2_with fail
      refine hal.mono ?_
      rintro e w1 ⟨v, rfl, hO, hB1⟩
      obtain ⟨_, _, _, _, _, c5⟩ := (HE.out.keep hB1).box.cells
      obtain ⟨G, cap, hv, hHB⟩ := HB.of_own hO h0
      rw [HNN.out] at hv
      subst hv
      have hK := key w1 G cap hB1 hHB
      clear hO hHB key
      go_wp2
      go_loopw [23] (fun i wr => ∃ k : Nat, k ≤ F ∧ i = .int .i64 (k : Int) ∧ Below w.heap.size w wr ∧ Hid (HB wr w.heap.size ⟨G, 0, cap, resK T k⟩)) (fun i _ => F - (intOf i).toNat)
      case atStart => exact ⟨0, Nat.zero_le _, by go_num, hB1, hK⟩
      case round =>
        clear hK hB1 c5
        obtain ⟨k, hk, rfl, hbr, hK⟩ := hrel
        by_cases hlt : k < F
        · have hkT : k < T.length := by have := HNN.out; omega
          have hc := hK.out.cell k (by dsimp only; rw [resK_len]; exact hkT)
          dsimp only at hc
          rw [resK_get T k hkT, Nat.zero_add] at hc
          have HS2 : Hid (HB (wr.setCell ⟨G, k, none⟩ (.string ⟨(T[k] ++ [10]).toArray⟩)) w.heap.size ⟨G, 0, cap, resK T (k + 1)⟩) := (by
            have h := hK.out.set k (by dsimp only; rw [resK_len]; exact hkT) (T[k] ++ [10])
            dsimp only at h
            rw [resK_set T k hkT, Nat.zero_add] at h
            exact h)
          have hsl := HBd.out T[k] (List.getElem_mem _)
          have hgN : w.heap.size ≤ G := hK.out.1
          obtain ⟨s, hs⟩ : ∃ s, T[k] = s := ⟨_, rfl⟩
          rw [hs] at hc HS2 hsl
          obtain ⟨c0, c1⟩ := hc
          clear hs hK
          have q1 := add_fits (x := s) (y := [10]) (by unfold Fits; simp only [List.length_cons, List.length_nil]; omega) Tryz.prog
          have i1 : 0 ≤ (k : Int) := by omega
          have i2 : (k : Int) < (n : Int) := by omega
          have i3 : (k : Int) < (F : Int) := by omega
          have hb2 : Below w.heap.size w (wr.setCell ⟨G, k, none⟩ (.string ⟨(s ++ [10]).toArray⟩)) := hbr.setCell (p := ⟨G, k, none⟩) hgN _
          go_wp2
          exact ⟨⟨k + 1, by omega, by go_num, hb2, HS2⟩, by simp [intOf]; omega⟩
        · have ek : k = F := by omega
          subst ek
          have hend : decide ((k : Int) < (k : Int)) = false := decide_eq_false (by omega)
          have hR := hK.out.all
          unfold Bck.v at hR
          dsimp only at hR
          have HR2 : Hid (HS wr (.slice (some ⟨G, 0, none⟩) n cap) (resK T k)) := (by
            have h := hR
            rw [resK_len, HNN.out] at h
            exact h)
          clear hR hK
          go_wp2
          go_ret
          exact ⟨_, rfl, HR2.out, hbr⟩
    | false =>
      have hF1 := hFe.2 rfl
      clear hFe
      subst hF1
      go_enter Tryz.func32, Tryz.ntmps32
      go_wp2_with fail
      refine hal.mono ?_
      rintro e w1 ⟨v, rfl, hO, hB1⟩
      obtain ⟨_, _, _, _, _, c5⟩ := (HE.out.keep hB1).box.cells
      obtain ⟨G, cap, hv, hHB⟩ := HB.of_own hO h0
      rw [HNN.out] at hv
      subst hv
      have hK := key w1 G cap hB1 hHB
      clear hO hHB key
      go_wp2
      go_loopw [23] (fun i wr => ∃ k : Nat, k ≤ n ∧ i = .int .i64 (k : Int) ∧ Below w.heap.size w wr ∧ Hid (HB wr w.heap.size ⟨G, 0, cap, resK T k⟩)) (fun i _ => n - (intOf i).toNat)
      case atStart => exact ⟨0, Nat.zero_le _, by go_num, hB1, hK⟩
      case round =>
        clear hK hB1 c5
        obtain ⟨k, hk, rfl, hbr, hK⟩ := hrel
        by_cases hlt : k < n
        · have hkT : k < T.length := by have := HNN.out; omega
          have hc := hK.out.cell k (by dsimp only; rw [resK_len]; exact hkT)
          dsimp only at hc
          rw [resK_get T k hkT, Nat.zero_add] at hc
          have HS2 : Hid (HB (wr.setCell ⟨G, k, none⟩ (.string ⟨(T[k] ++ [10]).toArray⟩)) w.heap.size ⟨G, 0, cap, resK T (k + 1)⟩) := (by
            have h := hK.out.set k (by dsimp only; rw [resK_len]; exact hkT) (T[k] ++ [10])
            dsimp only at h
            rw [resK_set T k hkT, Nat.zero_add] at h
            exact h)
          have hsl := HBd.out T[k] (List.getElem_mem _)
          have hgN : w.heap.size ≤ G := hK.out.1
          obtain ⟨s, hs⟩ : ∃ s, T[k] = s := ⟨_, rfl⟩
          rw [hs] at hc HS2 hsl
          obtain ⟨c0, c1⟩ := hc
          clear hs hK
          have q1 := add_fits (x := s) (y := [10]) (by unfold Fits; simp only [List.length_cons, List.length_nil]; omega) Tryz.prog
          have i1 : 0 ≤ (k : Int) := by omega
          have i2 : (k : Int) < (n : Int) := by omega
          have hb2 : Below w.heap.size w (wr.setCell ⟨G, k, none⟩ (.string ⟨(s ++ [10]).toArray⟩)) := hbr.setCell (p := ⟨G, k, none⟩) hgN _
          go_wp2
          exact ⟨⟨k + 1, by omega, by go_num, hb2, HS2⟩, by simp [intOf]; omega⟩
        · have ek : k = n := by omega
          subst ek
          have hend : decide ((k : Int) < (k : Int)) = false := decide_eq_false (by omega)
          have hR := hK.out.all
          unfold Bck.v at hR
          dsimp only at hR
          have HR2 : Hid (HS wr (.slice (some ⟨G, 0, none⟩) k cap) (resK T k)) := (by
            have h := hR
            rw [resK_len, HNN.out] at h
            exact h)
          clear hR hK
          go_wp2
          go_ret
          exact ⟨_, rfl, HR2.out, hbr⟩
end Go.Proofs.YtnlbjknfahhfaaaGreatDoor

/- The code's Run of layer 13, walked: the commands of a text are done. -/
set_option maxRecDepth 20000
namespace Go.Proofs.YtnlbjknfahhfaaaGreatDoor
open Go.RowKit

/-- how Run ends -/
def RnQ (w : World) (R : Except (Nat × Int) (List (List UInt8))) (e : Ending) (w' : World) : Prop :=
  match R with
  | .error (a, z) => ∃ g, e = .returned (.tuple #[.slice none 0 0, .iface 72 (.pointer (some ⟨g, 0, none⟩))]) ∧ w'.heap[g]? = some (fltO (a : Int) z) ∧ Below w.heap.size w w'
  | .ok l => ∃ v, e = .returned (.tuple #[v, .nilIface]) ∧ HS w' v l ∧ Below w.heap.size w w'
theorem flat_mem {a : List (List UInt8)} {t : List UInt8} (h : t ∈ a) : t.length ≤ a.flatten.length := by
  induction a with
  | nil => cases h
  | cons s a ih =>
    rw [List.flatten_cons, List.length_append]
    rcases List.mem_cons.1 h with rfl | h
    · omega
    · have := ih h
      omega
set_option maxRecDepth 10000 in
set_option maxHeartbeats 8000000 in
theorem Run_f (t : List UInt8) (a : List (List UInt8)) (va : Value) (w : World) (ha : HS w va a) (htl : t.length ≤ 1099511627776) (hla : a.length ≤ 4194304) (HTA : Hid (∀ s ∈ a, s.length ≤ 1099511627776)) (R : Except (Nat × Int) (List (List UInt8))) (HR : Hid (edR t a = R)) :
    Calls Tryz.prog 11 #[.string ⟨t.toArray⟩, va] w fun e w' => RnQ w R e w' := by
  have hR := HR.out
  unfold edR at hR
  clear HR
  by_cases hlong : 1048576 < t.length
  · rw [if_pos hlong] at hR
    subst hR
    have HA : Hid ((w.alloc (fltO ((0 : Nat) : Int) 9)).heap[w.heap.size]? = some (fltO ((0 : Nat) : Int) 9) ∧ Below w.heap.size w (w.alloc (fltO ((0 : Nat) : Int) 9))) := ⟨heap_alloc_new w _, (Below.refl _ w).alloc (Nat.le_refl _) _⟩
    have i1 : (1048576 : Int) < (t.length : Int) := by omega
    go_enter Tryz.func11, Tryz.ntmps11
    go_wp2
    go_ret2
    exact ⟨_, rfl, HA.out.1, HA.out.2⟩
  · rw [if_neg hlong] at hR
    have i1 : ¬ (1048576 : Int) < (t.length : Int) := by omega
    have hsl := Ln.split_len t
    have HSB : Hid (∀ s ∈ Ln.splitL t, s.length ≤ 1099511627776) := (by
      intro s hs
      have h1 := congrArg List.length (Ln.split_join t)
      have h2 := flat_mem hs
      omega)
    have hs := nSplit_f t w htl
    have HR2 : Hid (runE (Ln.splitL t).length 0 (Ln.splitL t) (a.map bareT) 0 false = R) := hR
    clear hR
    obtain ⟨S, hSd⟩ : ∃ S, Ln.splitL t = S := ⟨_, rfl⟩
    rw [hSd] at hsl HSB hs HR2
    clear hSd
    have hSl : S.length ≤ 1048576 := by omega
    have hlong2 : t.length ≤ 1048576 := by omega
    go_enter Tryz.func11, Tryz.ntmps11
    go_wp2_with fail
    refine hs.mono ?_
    rintro e w1 ⟨vs, rfl, hown, hb1⟩
    have hScr : HS w1 vs S := holds_of hown
    obtain ⟨so, sc, rfl⟩ := Holds.form hScr
    clear hown hs
    go_wp2_with fail
    refine (bared_f a va w1 (HS.keep ha hb1 (Nat.le_refl _)) (by omega) HTA).mono ?_
    rintro e w2 ⟨rfl, hg2, hb2⟩
    have hnb : HB w2 w1.heap.size ⟨w1.heap.size, 0, a.length, a.map bareT⟩ := HB.new (Nat.le_refl _) (by simp) hg2
    have hin := inBlocks_f ⟨w1.heap.size, 0, a.length, a.map bareT⟩ w1.heap.size w2 hnb (by dsimp only; rw [List.length_map]; omega) hb2.size
    have hvv : (⟨w1.heap.size, 0, a.length, a.map bareT⟩ : Bck).v = .slice (some ⟨w1.heap.size, 0, none⟩) a.length a.length := (by unfold Bck.v; dsimp only; rw [List.length_map])
    rw [hvv] at hin
    dsimp only at hin
    rw [List.length_map] at hin
    clear hg2 hnb hvv
    go_wp2_with fail
    refine hin.mono ?_
    rintro e w3 ⟨vl, X0, rfl, hk3, hcat0, hlen0, hb3⟩
    obtain ⟨lo, lc, _, rfl, _⟩ := hk3.row
    have hb13 : Below w1.heap.size w1 w3 := hb2.trans (hb3.mono hb2.size)
    have hbB : Below w3.heap.size w3 (w3.alloc (.cells #[.slice so S.length sc, .int .i64 0, .slice (some ⟨lo, 0, none⟩) X0.length lc, .int .i64 (a.length : Int), .int .i64 0, .bool false] 81)) := (Below.refl _ w3).alloc (Nat.le_refl _) _
    have hE0 : Ed w1 w3.heap.size (.slice so S.length sc) S 0 (.slice (some ⟨lo, 0, none⟩) X0.length lc) X0 0 false (w3.alloc (.cells #[.slice so S.length sc, .int .i64 0, .slice (some ⟨lo, 0, none⟩) X0.length lc, .int .i64 (a.length : Int), .int .i64 0, .bool false] 81)) := (by
      refine ⟨hScr, hb13.trans (hbB.mono hb13.size), hb13.size, ?_, hk3.low hbB, Nat.zero_le _, Nat.zero_le _⟩
      have hl : (cat X0).length = a.length := by rw [hcat0, List.length_map]
      rw [hl]
      exact heap_alloc_new w3 _)
    have HE0 : Hid (Ed w1 w3.heap.size (.slice so S.length sc) S 0 (.slice (some ⟨lo, 0, none⟩) X0.length lc) X0 0 false (w3.alloc (.cells #[.slice so S.length sc, .int .i64 0, .slice (some ⟨lo, 0, none⟩) X0.length lc, .int .i64 (a.length : Int), .int .i64 0, .bool false] 81))) := hE0
    have hB0 : Below w.heap.size w w1 := hb1
    obtain ⟨K, hK⟩ : ∃ K, 2 * S.length + a.length = K := ⟨_, rfl⟩
    have HK : Hid (2 * S.length + a.length = K) := hK
    have HK2 : Hid (K ≤ 6291456) := (by show K ≤ _; omega)
    have HC0 : Hid (cat X0 = a.map bareT ∧ 512 * X0.length ≤ a.length + 512) := ⟨hcat0, hlen0⟩
    have HBa : Hid (Bd (a.map bareT)) := (by
      intro s hs
      obtain ⟨u, hu, rfl⟩ := List.mem_map.1 hs
      have h1 := HTA.out u hu
      have h2 : (bareT u).length ≤ u.length := (by
        unfold bareT
        split
        · rw [List.length_dropLast]; omega
        · exact Nat.le_refl _)
      omega)
    clear hE0 hcat0 hlen0 hk3 hin hb2 hb3 hK hbB
    go_wp2
    generalize w3.alloc (.cells #[.slice so S.length sc, .int .i64 0, .slice (some ⟨lo, 0, none⟩) X0.length lc, .int .i64 (a.length : Int), .int .i64 0, .bool false] 81) = W4 at HE0 ⊢
    generalize w3.heap.size = G at HE0 ⊢
    go_loopw [] (fun wr => ∃ (q : Nat) (vl : Value) (X : List Bck) (cur : Nat) (en : Bool) (f : Nat), Hid (Ed w1 G (.slice so S.length sc) S q vl X cur en wr) ∧ q ≤ S.length ∧ Hid (S.length - q ≤ f ∧ runE f q (S.drop q) (cat X) cur en = R) ∧ Hid (Bd (cat X) ∧ (cat X).length ≤ a.length + q ∧ 512 * X.length ≤ a.length + 512 + q * K)) (fun wr => S.length - edP G wr)
    case atStart =>
      refine ⟨0, _, X0, 0, false, S.length, HE0, Nat.zero_le _, (⟨Nat.le_refl _, ?_⟩ : _ ∧ _), (⟨?_, ?_, ?_⟩ : _ ∧ _ ∧ _)⟩
      · rw [HC0.out.1]; exact HR2.out
      · rw [HC0.out.1]; exact HBa.out
      · rw [HC0.out.1, List.length_map]; omega
      · have := HC0.out.2; omega
    case round =>
      clear HE0 HC0 HBa HR2
      obtain ⟨q, vl, X, cur, en, f, HE, hq, HF, HB⟩ := hrel
      have hmeas := edP_eq HE.out.box
      obtain ⟨c0, c1, _, _, _, _⟩ := HE.out.box.cells
      have hqK : q * K ≤ 1048576 * 6291456 := Nat.mul_le_mul (by omega) HK2.out
      have hXl : X.length ≤ 549755813888 := by have := HB.out.2.2; omega
      have hTl : (cat X).length ≤ 137438953472 := by have := HB.out.2.1; omega
      by_cases hlt : q < S.length
      · have l1 : (q : Int) < (S.length : Int) := by omega
        obtain ⟨r, hr⟩ : ∃ r, sdR q S[q] (S.drop (q + 1)) (cat X) cur en = r := ⟨_, rfl⟩
        have HRs : Hid (sdR q S[q] (S.drop (q + 1)) (cat X) cur en = r) := hr
        have hst := step_f w1 G _ vl S q X cur en wr HE.out (by omega) HSB hlt hXl hTl r HRs
        have HF2 : Hid ((match sdE q S[q] (S.drop (q + 1)) (cat X) cur en with
            | .error e => .error e
            | .ok (T1, c1, e1, q2, r2) => runE (f - 1) q2 r2 T1 c1 e1) = R) := (by
          show _ = _
          have h := HF.out.2
          have h1 := HF.out.1
          cases f with
          | zero => omega
          | succ f =>
            rw [List.drop_eq_getElem_cons hlt, runE] at h
            rw [Nat.add_sub_cancel, ← h]
            cases sdE q S[q] (S.drop (q + 1)) (cat X) cur en with
            | error e => rfl
            | ok x => rfl)
        have hfl : S.length - q ≤ f := HF.out.1
        have HLow : Hid (Below w.heap.size w w1) := hB0
        clear hr HF
        go_wp2_with fail
        refine hst.mono ?_
        intro e w5 hQ
        cases hsd : sdE q S[q] (S.drop (q + 1)) (cat X) cur en with
        | error kz =>
          obtain ⟨k, z⟩ := kz
          have hrr : r = .error (k, z) := (by rw [← HRs.out]; unfold sdR; rw [hsd])
          have hRR : R = .error (k, z) := (by rw [← HF2.out, hsd])
          clear HF2
          subst hRR
          subst hrr
          obtain ⟨rfl, hz, p5, vl5, X5, cur5, en5, rfl, hE5⟩ := hQ
          have hzb : (z != 0) = true := bne_iff_ne.2 hz
          have HE5 : Hid (Ed w1 G (.slice so S.length sc) S p5 vl5 X5 cur5 en5 w5) := hE5
          obtain ⟨_, d1, _, _, _, _⟩ := hE5.box.cells
          have hp5 := hE5.hp
          have hlow5 : Below w.heap.size w w5 := HLow.out.trans (hE5.low.mono HLow.out.size)
          have d1d : w5.drew.cell? ⟨G, 1, none⟩ = some (.int .i64 (p5 : Int)) := d1
          have hw : IntKind.i64.wrap ((p5 : Int) + 1) = (p5 : Int) + 1 := wrap_small _ (by omega) (by omega)
          have HA : Hid ((w5.drew.alloc (fltO ((p5 + 1 : Nat) : Int) z)).heap[w5.heap.size]? = some (fltO ((p5 + 1 : Nat) : Int) z) ∧ Below w.heap.size w (w5.drew.alloc (fltO ((p5 + 1 : Nat) : Int) z))) := ⟨heap_alloc_new w5.drew _, hlow5.drew.alloc hlow5.size _⟩
          clear hE5 hsd HRs
          go_wp2_with fail
          go_region_held3 (fun w' => w'.cell? ⟨G, 1, none⟩ = some (.int .i64 (p5 : Int))) (go_keep) (fail)
          go_wp2
          go_ret2
          exact ⟨_, rfl, HA.out.1, HA.out.2⟩
        | ok x =>
          obtain ⟨T1, c1', e1, q2, r2⟩ := x
          have hrr : r = .ok (T1, c1', e1, q2) := (by rw [← HRs.out]; unfold sdR; rw [hsd])
          have hRR : runE (f - 1) q2 r2 T1 c1' e1 = R := (by have h := HF2.out; rw [hsd] at h; exact h)
          subst hrr
          obtain ⟨rfl, vl5, X5, hE5, hcat5, hlen5⟩ := hQ
          obtain ⟨b1, b2, b3, b4⟩ := sd_bd HB.out.1 (fun s hs => HSB.out s (List.mem_of_mem_drop hs)) hsd
          have hp5 := hE5.hp
          have HE5 : Hid (Ed w1 G (.slice so S.length sc) S q2 vl5 X5 c1' e1 w5) := hE5
          have hm5 := edP_eq hE5.box
          have HF5 : Hid (S.length - q2 ≤ f - 1 ∧ runE (f - 1) q2 (S.drop q2) (cat X5) c1' e1 = R) := (by
            refine ⟨by omega, ?_⟩
            rw [hcat5, ← hRR, b4, List.drop_drop]
            congr 2
            omega)
          have HB5 : Hid (Bd (cat X5) ∧ (cat X5).length ≤ a.length + q2 ∧ 512 * X5.length ≤ a.length + 512 + q2 * K) := (by
            rw [hcat5]
            refine ⟨b1, by have := HB.out.2.1; omega, ?_⟩
            have h1 := HB.out.2.2
            have h2 := HB.out.2.1
            have h3 := HK.out
            have h4 : (q + 1) * K ≤ q2 * K := Nat.mul_le_mul_right _ b2
            rw [Nat.add_mul, Nat.one_mul] at h4
            omega)
          clear hE5 hcat5 hlen5 hsd hRR HF2 HRs b1 b4
          go_wp2
          exact ⟨⟨q2, vl5, X5, c1', e1, f - 1, HE5, hp5, HF5, HB5⟩, by rw [hm5, hmeas]; omega⟩
      · have eq : q = S.length := by omega
        have l1 : decide ((q : Int) < (S.length : Int)) = false := decide_eq_false (by omega)
        have hrs := result_f w1 G _ vl S q X cur en wr HE.out hXl hTl HB.out.1
        obtain ⟨RR, hRRd⟩ : ∃ RR, resE (cat X) en = RR := ⟨_, rfl⟩
        rw [hRRd] at hrs
        have hRR : R = .ok RR := (by
          have h := HF.out.2
          rw [List.drop_of_length_le (by omega), runE_nil, hRRd] at h
          exact h.symm)
        subst hRR
        clear hRRd
        have hlow5 : Below w.heap.size w wr := hB0.trans (HE.out.low.mono hB0.size)
        clear HF
        go_wp2_with fail
        refine hrs.mono ?_
        rintro e w5 ⟨v, rfl, hH5, hb5⟩
        obtain ⟨vo, vc, rfl⟩ := Holds.form hH5
        have HH5 : Hid (HS w5 (.slice vo RR.length vc) RR) := hH5
        clear hH5
        go_wp2
        go_ret2
        exact ⟨_, rfl, HH5.out, hlow5.trans (hb5.mono hlow5.size)⟩
end Go.Proofs.YtnlbjknfahhfaaaGreatDoor
