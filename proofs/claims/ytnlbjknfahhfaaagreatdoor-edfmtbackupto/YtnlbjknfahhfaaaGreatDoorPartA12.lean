/-
  Texts that belong together, joined: EfTx, EfDo, EfSp, EfM3, NoRd, NoPk, NoMk, NpE, EfRu, EfRw, EfWk.
-/
import Derived.Test.YtnlbjknfahhfaaaGreatDoorPartA11
import Derived.Test.YtnlbjknfahhfaaaGreatDoorPartA8
import Derived.Test.YtnlbjknfahhfaaaGreatDoorPartA7
import Derived.Test.YtnlbjknfahhfaaaGreatDoorPartA4
import Derived.Deep.CutBlock
import Derived.Deep.RegionHeld3
import Derived.WalkLawsBesides
import Derived.Test.YtnlbjknfahhfaaaGreatDoorPartA9
import Derived.Test.YtnlbjknfahhfaaaGreatDoorPartA5

/- The editor's text of layer 13, walked: the text lines of a command. -/
set_option maxRecDepth 20000
namespace Go.Proofs.YtnlbjknfahhfaaaGreatDoor
open Go.RowKit

/-- the editor's place, as it lies in memory -/
def edP (g : Nat) (w : World) : Nat := match w.cell? ⟨g, 1, none⟩ with
  | some (.int _ z) => z.toNat
  | _ => 0
theorem edP_eq {g : Nat} {w : World} {vs vl : Value} {p : Nat} {cnt cur : Int} {en : Bool} (h : Eb w g vs vl (p : Int) cnt cur en) : edP g w = p := by
  unfold edP
  rw [h.cells.2.1]
  simp
theorem own_keep {a b : World} {base : Nat} {e : TypeId} {s : Nat} {v : Value} {n : Nat} {xs : List Value} (h : a.ownsRow base e s v n xs) (hk : ∀ k, v.ownBlock = some k → b.heap[k]? = a.heap[k]?) : b.ownsRow base e s v n xs := by
  refine ⟨h.1, ?_⟩
  rcases h.2 with q | ⟨g, cap, cur, rfl, q2, q3, q4⟩
  · exact .inl q
  · exact .inr ⟨g, cap, cur, rfl, q2, (hk g rfl).trans q3, q4⟩
theorem Bt.grown {g : Nat} {a b c : World} {row : Option Nat} (h : Bt g a b) (hg : b.grownBy c row) (hr : ∀ j, row = some j → a.heap.size ≤ j) : Bt g a c :=
  ⟨hg.os.trans h.os, hg.tape.trans h.tape, hg.output.trans h.output, Nat.le_trans h.size hg.size, fun k hk hq => (hg.block k (Nat.lt_of_lt_of_le hk h.size) (fun e => by have := hr k e.symm; omega)).trans (h.block k hk hq)⟩
def txA (l : List (List UInt8)) (r : Except (Nat × Int) (List (List UInt8) × Nat × List (List UInt8))) : Except (Nat × Int) (List (List UInt8) × Nat × List (List UInt8)) := match r with
  | .error e => .error e
  | .ok (l2, q, r2) => .ok (l ++ l2, q, r2)
theorem txA_txA (l : List (List UInt8)) (s : List UInt8) (r : Except (Nat × Int) (List (List UInt8) × Nat × List (List UInt8))) : txA l (match r with
    | .error e => .error e
    | .ok (l2, q, r2) => .ok (s :: l2, q, r2)) = txA (l ++ [s]) r := by
  cases r with
  | error e => rfl
  | ok x => simp [txA]
/-- how text ends -/
def TxQ (W : World) (g : Nat) (vs : Value) (S : List (List UInt8)) (vl : Value) (X : List Bck) (cur : Nat) (en : Bool) (R : Except (Nat × Int) (List (List UInt8) × Nat × List (List UInt8))) (w : World) (e : Ending) (w' : World) : Prop :=
  match R with
  | .error (k, z) => e = .returned (.tuple #[.slice none 0 0, .int .i64 z]) ∧ z ≠ 0 ∧ ∃ p, k = p + 1 ∧ Ed W g vs S p vl X cur en w'
  | .ok (l, q, _) => ∃ oo oc, e = .returned (.tuple #[.slice oo l.length oc, .int .i64 0]) ∧ HS w' (.slice oo l.length oc) l ∧ Ed W g vs S q vl X cur en w' ∧ Bt g w w'
set_option maxRecDepth 10000 in
set_option maxHeartbeats 4000000 in
theorem etext_f (W : World) (g : Nat) (vs vl : Value) (S : List (List UInt8)) (p : Nat) (X : List Bck) (cur : Nat) (en : Bool) (w : World) (hE : Ed W g vs S p vl X cur en w) (hS : S.length ≤ 1099511627776) (HTS : Hid (∀ s ∈ S, s.length ≤ 1099511627776))
    (R : Except (Nat × Int) (List (List UInt8) × Nat × List (List UInt8))) (HR : Hid (txR p (S.drop p) = R)) :
    Calls Tryz.prog 83 #[.pointer (some ⟨g, 0, none⟩)] w fun e w' => TxQ W g vs S vl X cur en R w e w' := by
  have hgl := hE.box.lt
  have HE : Hid (Ed W g vs S p vl X cur en w) := hE
  have HI0 : Hid (txA [] (txR p (S.drop p)) = R) := (by show _ = _; rw [HR.out]; cases R <;> rfl)
  have hp0 := hE.hp
  have hb0 := hE.box
  clear hE HR
  go_enter Tryz.func83, Tryz.ntmps83
  go_wp2
  go_loopw [4] (fun lv wr => ∃ (q : Nat) (l : List (List UInt8)), q ≤ S.length ∧ Hid (q = p + l.length) ∧ (∃ oo oc, lv = .slice oo l.length oc) ∧ Hid (wr.ownsRow w.heap.size 9 1 lv l.length (scells l)) ∧ Hid (Eb wr g vs vl (q : Int) ((cat X).length : Int) (cur : Int) en) ∧ Bt g w wr ∧ Hid (txA l (txR q (S.drop q)) = R)) (fun _ wr => S.length + 1 - edP g wr)
  case atStart => exact ⟨p, [], hp0, rfl, ⟨none, 0, rfl⟩, World.ownsRow_nil _ _ _ _, hb0, Bt.of (Below.refl _ w), HI0⟩
  case round =>
    clear HI0 hb0
    obtain ⟨q, l, hq, hql, ⟨oo, oc, rfl⟩, hO, hEb, hB, HI⟩ := hrel
    have HEr : Hid (Ed W g vs S q vl X cur en wr) := HE.out.bt hB hEb.out hq
    have hmeas := edP_eq hEb.out
    by_cases hlt : q < S.length
    · cases hf : fdB S[q] with
      | true =>
        obtain ⟨t, ht⟩ : ∃ t, S[q].dropLast = t := ⟨_, rfl⟩
        have HNX : Hid (nxE S q = (t, 0)) := (by
          show _ = _
          unfold nxE
          rw [dif_pos hlt, if_pos hf, ht])
        have HTX : Hid (txR q (S.drop q) = if t = [46] then .ok ([], q + 1, S.drop (q + 1)) else match txR (q + 1) (S.drop (q + 1)) with
            | .error e => .error e
            | .ok (l, q, r2) => .ok (t :: l, q, r2)) := (by
          show _ = _
          rw [List.drop_eq_getElem_cons hlt, txR, if_pos hf, ht]
          split
          · rfl
          · cases txR (q + 1) (S.drop (q + 1)) <;> rfl)
        have htl : t.length ≤ 1099511627776 := (by
          have := HTS.out S[q] (List.getElem_mem _)
          rw [← ht, List.length_dropLast]
          omega)
        clear ht hf
        go_wp2_with fail
        refine (eline_f W g vs vl S q X cur en wr HEr.out hS HTS t 0 HNX).mono ?_
        rintro e w1 ⟨rfl, hb1⟩
        have HE1 : Hid (Ed W g vs S q vl X cur en w1) := HEr.out.keep hb1
        obtain ⟨_, c1, _, _, _, _⟩ := HE1.out.box.cells
        have f1 := HE1.out.box.frozen 1
        have hB1 : Bt g w w1 := hB.trans (Bt.of hb1)
        have hO1 : Hid (w1.ownsRow w.heap.size 9 1 (.slice oo l.length oc) l.length (scells l)) := own_keep hO.out (fun k hk => hb1.block k (hO.out.lt k hk).2)
        have HE2 : Hid (Ed W g vs S (q + 1) vl X cur en (w1.setCell ⟨g, 1, none⟩ (.int .i64 ((q : Int) + 1)))) := HE1.out.setP (q + 1) (by omega) _ (by omega)
        have hB2 : Bt g w (w1.setCell ⟨g, 1, none⟩ (.int .i64 ((q : Int) + 1))) := hB1.set 1 _
        have hO2 : Hid ((w1.setCell ⟨g, 1, none⟩ (.int .i64 ((q : Int) + 1))).ownsRow w.heap.size 9 1 (.slice oo l.length oc) l.length (scells l)) := own_keep hO1.out (fun k hk => heap_setCell_other _ _ _ _ (by have := (hO1.out.lt k hk).1; show k ≠ g; omega))
        clear HEr hO hO1 hEb hB hB1 hb1 HE1
        by_cases hd : t = [46]
        · subst hd
          have HI2 : Hid (.ok (l, q + 1, S.drop (q + 1)) = R) := (by
            show _ = _
            rw [← HI.out, HTX.out, if_pos rfl]
            simp [txA])
          clear HI HTX
          go_wp2
          go_ret2
          have hr := HI2.out
          subst hr
          exact ⟨oo, oc, rfl, holds_of hO2.out, HE2.out, hB2⟩
        · have hdb : (t == [46]) = false := beq_eq_false_iff_ne.2 hd
          have HI2 : Hid (txA (l ++ [t]) (txR (q + 1) (S.drop (q + 1))) = R) := (by
            show _ = _
            rw [← HI.out, HTX.out, if_neg hd, txA_txA])
          clear HI HTX hd
          have hlb : l.length ≤ 1099511627776 := by have := hql.out; omega
          obtain ⟨w2, hw2⟩ : ∃ w2, w1.setCell ⟨g, 1, none⟩ (.int .i64 ((q : Int) + 1)) = w2 := ⟨_, rfl⟩
          rw [hw2] at HE2 hB2 hO2
          have hsz := hB2.size
          go_wp2_with (at_builtin; refine wpList_append_h _ (by kernel_rfl) (.tmp 25) (.tmp 27) 23 9 (.string ⟨#[]⟩) 1 16 rfl Tryz.underlying23 infoStr rfl (by decide) (by decide) w.heap.size _ _ _ rfl (hO2.out.alloc _) _ 1 (scells [t]) rfl (new_holds _ _ _ _ _ (by decide)) rfl (scells_one _) (by omega) (by simp; omega) ?_)
          intro v3 w3 hown3 hgrow3
          have hB3 : Bt g w w3 := (hB2.trans (Bt.of ((Below.refl _ w2).alloc (Nat.le_refl _) _))).grown hgrow3 (fun j hj => owns_ge (hO2.out.alloc (.cells #[.string ⟨t.toArray⟩] 9)) hj)
          have hEb3 : Hid (Eb w3 g vs vl ((q + 1 : Nat) : Int) ((cat X).length : Int) (cur : Int) en) := (by
            have h1 := HE2.out.box
            have h2 : Eb (w2.alloc (.cells #[.string ⟨t.toArray⟩] 9)) g vs vl ((q + 1 : Nat) : Int) ((cat X).length : Int) (cur : Int) en := h1.low ((Below.refl _ w2).alloc (Nat.le_refl _) _)
            refine (hgrow3.block g h2.lt (fun e => ?_)).trans h2
            have := owns_ge (hO2.out.alloc (.cells #[.string ⟨t.toArray⟩] 9)) e.symm
            omega)
          obtain ⟨o3, c3, rfl⟩ := (holds_of hown3).form
          rw [← scells_append] at hown3
          have HO3 : Hid (w3.ownsRow w.heap.size 9 1 (.slice o3 (l.length + 1) c3) (l.length + 1) (scells (l ++ [t]))) := hown3
          have hm3 := edP_eq hEb3.out
          clear hown3 hgrow3 hO2 HE2
          go_wp2
          refine ⟨⟨q + 1, l ++ [t], by omega, (by show _ = _; have := hql.out; simp; omega), ⟨o3, c3, by simp⟩, ?_, hEb3, hB3, HI2⟩, ?_⟩
          · show World.ownsRow _ _ _ _ _ _ _
            rw [List.length_append, List.length_singleton]
            exact HO3.out
          · rw [hm3, hmeas]
            omega
      | false =>
        have HNX : Hid (nxE S q = ([], 3)) := (by
          show _ = _
          unfold nxE
          rw [dif_pos hlt, if_neg (by rw [hf]; decide)])
        have HI2 : Hid (.error (q + 1, 3) = R) := (by
          show _ = _
          rw [← HI.out, List.drop_eq_getElem_cons hlt, txR, if_neg (by rw [hf]; decide)]
          rfl)
        clear HI hf
        go_wp2_with fail
        refine (eline_f W g vs vl S q X cur en wr HEr.out hS HTS [] 3 HNX).mono ?_
        rintro e w1 ⟨rfl, hb1⟩
        have HE1 : Hid (Ed W g vs S q vl X cur en w1) := HEr.out.keep hb1
        go_wp2
        go_ret2
        have hr := HI2.out
        subst hr
        exact ⟨rfl, by decide, q, rfl, HE1.out⟩
    · have HNX : Hid (nxE S q = ([], 1)) := (by
        show _ = _
        unfold nxE
        rw [dif_neg hlt])
      have HI2 : Hid (.error (q + 1, 1) = R) := (by
        show _ = _
        rw [← HI.out, List.drop_of_length_le (by omega), txR]
        rfl)
      clear HI
      go_wp2_with fail
      refine (eline_f W g vs vl S q X cur en wr HEr.out hS HTS [] 1 HNX).mono ?_
      rintro e w1 ⟨rfl, hb1⟩
      have HE1 : Hid (Ed W g vs S q vl X cur en w1) := HEr.out.keep hb1
      go_wp2
      go_ret2
      have hr := HI2.out
      subst hr
      exact ⟨rfl, by decide, q, rfl, HE1.out⟩
end Go.Proofs.YtnlbjknfahhfaaaGreatDoor

/- The editor's do and putFurther of layer 13, walked. -/
set_option maxRecDepth 20000
namespace Go.Proofs.YtnlbjknfahhfaaaGreatDoor
open Go.RowKit

/-- what a command comes to, as the run goes on with it -/
def doR (T : List (List UInt8)) (a b : Nat) (en : Bool) (R : Except (Nat × Int) (List (List UInt8) × Nat × List (List UInt8))) : Except (Nat × Int) (List (List UInt8) × Nat × Bool × Nat) := match R with
  | .error e => .error e
  | .ok (l, q, _) => .ok (putE T a b l, curE a l, en, q)
theorem txL_le : ∀ (r : List (List UInt8)) {p q : Nat} {l r2 : List (List UInt8)}, txR p r = .ok (l, q, r2) → l.length ≤ r.length
  | [], _, _, _, _, h => by cases h
  | s :: r, p, q, l, r2, h => by
    simp only [txR] at h
    split at h
    · split at h
      · cases h
        simp
      · split at h
        · cases h
        · rename_i l' q' r' h'
          cases h
          have := txL_le r h'
          simp only [List.length_cons]
          omega
    · cases h
set_option maxRecDepth 10000 in
set_option maxHeartbeats 8000000 in
theorem edo_f (W : World) (g : Nat) (vs vl : Value) (S : List (List UInt8)) (p : Nat) (X : List Bck) (cur : Nat) (en : Bool) (w : World) (hE : Ed W g vs S p vl X cur en w) (hS : S.length ≤ 274877906944) (HTS : Hid (∀ s ∈ S, s.length ≤ 1099511627776)) (hp1 : p < S.length) (hX : X.length ≤ 549755813888) (hT : (cat X).length ≤ 137438953472)
    (a b : Nat) (tx : Bool) (hab : a ≤ b) (hb : b ≤ (cat X).length) (R : Except (Nat × Int) (List (List UInt8) × Nat × List (List UInt8))) (HR : Hid (doE tx (p + 1) (S.drop (p + 1)) = R)) :
    Calls Tryz.prog 55 #[.pointer (some ⟨g, 0, none⟩), .agg #[.int .i64 (a : Int), .int .i64 (b : Int), .bool tx]] w fun e w' => EdQ W g vs S (512 * X.length + (cat X).length + S.length) (doR (cat X) a b en R) e w' := by
  have hB0 : Below w.heap.size w (w.alloc (.cells #[.int .i64 (a : Int), .int .i64 (b : Int), .bool tx] 109)) := (Below.refl _ w).alloc (Nat.le_refl _) _
  have hc0 : Cb (w.alloc (.cells #[.int .i64 (a : Int), .int .i64 (b : Int), .bool tx] 109)) w.heap.size (.int .i64 (a : Int)) (.int .i64 (b : Int)) (.bool tx) := _root_.Go.heap_alloc_new w _
  obtain ⟨w0, hw0⟩ : ∃ w0, w.alloc (.cells #[.int .i64 (a : Int), .int .i64 (b : Int), .bool tx] 109) = w0 := ⟨_, rfl⟩
  rw [hw0] at hB0 hc0
  have hE0 := hE.keep hB0
  have hne : w.heap.size ≠ g := by have := hE.box.lt; omega
  obtain ⟨_, c1, _, _, _, _⟩ := hE0.box.cells
  have f1 := hE0.box.frozen 1
  have hE1 := hE0.setP (p + 1) (by omega) ((p : Int) + 1) (by omega)
  have hc1 : Cb (w0.setCell ⟨g, 1, none⟩ (.int .i64 ((p : Int) + 1))) w.heap.size (.int .i64 (a : Int)) (.int .i64 (b : Int)) (.bool tx) := (heap_setCell_other _ _ _ _ hne).trans hc0
  obtain ⟨w1, hw1⟩ : ∃ w1, w0.setCell ⟨g, 1, none⟩ (.int .i64 ((p : Int) + 1)) = w1 := ⟨_, rfl⟩
  rw [hw1] at hE1 hc1
  obtain ⟨_, _, d2⟩ := hc1.cells
  have hpi : (p : Int) ≤ 274877906944 := by omega
  clear hE hE0 hB0 hc0
  cases tx with
  | true =>
    have HR2 : Hid (txR (p + 1) (S.drop (p + 1)) = R) := (by show _ = _; rw [← HR.out]; rfl)
    go_enter Tryz.func55, Tryz.ntmps55
    go_wp2_with fail
    refine (etext_f W g vs vl S (p + 1) X cur en w1 hE1 (by omega) HTS R HR2).mono ?_
    intro e w2 hq
    cases R with
    | error kz =>
      obtain ⟨k, z⟩ := kz
      obtain ⟨rfl, hz, p', rfl, hE2⟩ := hq
      have hzb : (z != 0) = true := bne_iff_ne.2 hz
      have HE2 : Hid (Ed W g vs S p' vl X cur en w2) := hE2
      clear hE2
      go_wp2
      go_ret
      exact ⟨rfl, hz, _, _, _, _, _, rfl, HE2.out⟩
    | ok x =>
      obtain ⟨l, q, r2⟩ := x
      obtain ⟨oo, oc, rfl, hHl, hE2, hB2⟩ := hq
      have hll : l.length ≤ S.length := (by
        have h1 := txR_len HR2.out
        have h2 := txR_drop HR2.out
        have h3 := txL_le _ HR2.out
        rw [List.length_drop] at h3
        omega)
      have hc2 : Cb w2 w.heap.size (.int .i64 (a : Int)) (.int .i64 (b : Int)) (.bool true) := (hB2.block _ hc1.lt hne).trans hc1
      obtain ⟨e0, e1, _⟩ := hc2.cells
      have hre := replace_f w2.drew g W.heap.size vs vl (.slice oo l.length oc) (q : Int) (cur : Int) en X (l) (hE2.keep (Below.refl _ w2).drew).box (hE2.keep (Below.refl _ w2).drew).bks hE2.gW (HS.keep hHl (Below.refl _ w2).drew (Nat.le_refl _)) (by omega) (by omega) (by omega) a b hab hb
      have hre2 : Calls Tryz.prog 84 #[.pointer (some ⟨g, 2, none⟩), .int .i64 (a : Int), .int .i64 (b : Int), .slice oo l.length oc] w2.drew fun e w' => e = .returned (.tuple #[]) ∧ w'.cell? ⟨w.heap.size, 0, none⟩ = some (.int .i64 (a : Int)) ∧ w'.cell? ⟨w.heap.size, 1, none⟩ = some (.int .i64 (b : Int)) ∧ Hid (∃ vl' X', Ed W g vs S q vl' X' 0 en (w'.setCell ⟨g, 4, none⟩ (.int .i64 0)) ∧ Eb w' g vs vl' (q : Int) ((cat X').length : Int) (cur : Int) en ∧ cat X' = putE (cat X) a b (l) ∧ 512 * X'.length ≤ 512 * X.length + (cat X).length + (l).length) := (by
        refine hre.mono ?_
        rintro e w' ⟨rfl, vl', X', h1, h2, h3, h4, h5⟩
        have hcb : Cb w' w.heap.size (.int .i64 (a : Int)) (.int .i64 (b : Int)) (.bool true) := (h5.block _ hc2.lt hne).trans hc2
        obtain ⟨q0, q1, _⟩ := hcb.cells
        refine ⟨rfl, q0, q1, vl', X', ?_, h1, h3, h4⟩
        have hb4 := Bt.set (g := g) (Bt.of (Below.refl _ w')) 4 (.int .i64 (0 : Int))
        exact ⟨hE2.scr, (hE2.low.trans ((Bt.trans (Bt.of (Below.refl _ w2).drew) h5).low hE2.gW hE2.low.size)).trans (hb4.low hE2.gW (Nat.le_trans hE2.low.size (Bt.trans (Bt.of (Below.refl _ w2).drew) h5).size)), hE2.gW, h1.setU 0, h2.bt h1 hb4, hE2.hp, Nat.zero_le _⟩)
      clear hre
      have e0d : w2.drew.cell? ⟨w.heap.size, 0, none⟩ = some (.int .i64 (a : Int)) := e0
      have e1d : w2.drew.cell? ⟨w.heap.size, 1, none⟩ = some (.int .i64 (b : Int)) := e1
      go_wp2_with fail
      go_region_held3 (fun w' => w'.cell? ⟨w.heap.size, 0, none⟩ = some (.int .i64 (a : Int)) ∧ w'.cell? ⟨w.heap.size, 1, none⟩ = some (.int .i64 (b : Int))) (go_keep)
        (first | (go_at_call 84; refine hre2.mono ?_; rintro e w3 ⟨rfl, y0, y1, HQ⟩))
      obtain ⟨vl', X', hE4, hEb, hcat, hlen⟩ := HQ.out
      have HC4 : Hid (cat X' = putE (cat X) a b (l)) := hcat
      have HL4 : Hid (512 * X'.length ≤ 512 * X.length + (cat X).length + S.length) := (by show _ ≤ _; omega)
      obtain ⟨_, _, _, _, z4, _⟩ := hEb.cells
      have zf := hEb.frozen 4
      have hne2 : w.heap.size ≠ (⟨g, 4, none⟩ : Addr).block := hne
      have hb3 : w3.heap[w.heap.size]? = _ := (rfl : w3.heap[w.heap.size]? = w3.heap[w.heap.size]?)
      have x0 : (w3.setCell ⟨g, 4, none⟩ (.int .i64 0)).cell? ⟨w.heap.size, 0, none⟩ = some (.int .i64 (a : Int)) := (by
        rw [← y0]
        unfold World.cell?
        dsimp only
        rw [heap_setCell_other _ _ _ _ hne2])
      have HE4 : Hid (Ed W g vs S q vl' X' 0 en (w3.setCell ⟨g, 4, none⟩ (.int .i64 0))) := hE4
      have z4b : (w3.setCell ⟨g, 4, none⟩ (.int .i64 0)).cell? ⟨g, 4, none⟩ = some (.int .i64 0) := hE4.box.cells.2.2.2.2.1
      have zfb : (w3.setCell ⟨g, 4, none⟩ (.int .i64 0)).frozen? ⟨g, 4, none⟩ = false := hE4.box.frozen 4
      clear hE4 hEb hcat hlen HQ y0 y1 e0 e1 e0d e1d hre2 hb3
      by_cases h0 : 0 < l.length
      · have hc5 : a + l.length ≤ (cat X').length := (by rw [HC4.out]; exact put_len _ _ _ _ (by omega))
        have HE5 : Hid (Ed W g vs S q vl' X' (a + l.length) en ((w3.setCell ⟨g, 4, none⟩ (.int .i64 0)).setCell ⟨g, 4, none⟩ (.int .i64 ((a : Int) + (l.length : Int))))) := HE4.out.setU (a + l.length) hc5 _ (by omega)
        have HCU : Hid (curE a l = a + l.length) := (by show _ = _; unfold curE; rw [if_neg (by omega)])
        have h0i : (0 : Int) < (l.length : Int) := by omega
        go_wp2
        go_ret
        refine ⟨rfl, vl', X', ?_, HC4.out, HL4.out⟩
        rw [HCU.out]
        exact HE5.out
      · have h0i : decide ((0 : Int) < (l.length : Int)) = false := decide_eq_false (by omega)
        have HCU : Hid (curE a l = 0) := (by show _ = _; unfold curE; rw [if_pos (by omega)])
        have h0j : decide (0 < l.length) = false := decide_eq_false h0
        go_wp2
        go_ret
        refine ⟨rfl, vl', X', ?_, HC4.out, HL4.out⟩
        rw [HCU.out]
        exact HE4.out
  | false =>
    have HR2 : Hid (.ok ([], p + 1, S.drop (p + 1)) = R) := (by show _ = _; rw [← HR.out]; rfl)
    have hr := HR2.out
    subst hr
    have hHl : HS w1 (.slice none 0 0) [] := Holds.nil w1
    have hll : ([] : List (List UInt8)).length ≤ S.length := Nat.zero_le _
    go_enter Tryz.func55, Tryz.ntmps55
    obtain ⟨e0, e1, _⟩ := hc1.cells
    have hre := replace_f w1.drew g W.heap.size vs vl (.slice none 0 0) ((p + 1 : Nat) : Int) (cur : Int) en X (([] : List (List UInt8))) (hE1.keep (Below.refl _ w1).drew).box (hE1.keep (Below.refl _ w1).drew).bks hE1.gW (HS.keep hHl (Below.refl _ w1).drew (Nat.le_refl _)) (by omega) (by omega) (by omega) a b hab hb
    have hre2 : Calls Tryz.prog 84 #[.pointer (some ⟨g, 2, none⟩), .int .i64 (a : Int), .int .i64 (b : Int), .slice none 0 0] w1.drew fun e w' => e = .returned (.tuple #[]) ∧ w'.cell? ⟨w.heap.size, 0, none⟩ = some (.int .i64 (a : Int)) ∧ w'.cell? ⟨w.heap.size, 1, none⟩ = some (.int .i64 (b : Int)) ∧ Hid (∃ vl' X', Ed W g vs S (p + 1 : Nat) vl' X' 0 en (w'.setCell ⟨g, 4, none⟩ (.int .i64 0)) ∧ Eb w' g vs vl' ((p + 1 : Nat) : Int) ((cat X').length : Int) (cur : Int) en ∧ cat X' = putE (cat X) a b (([] : List (List UInt8))) ∧ 512 * X'.length ≤ 512 * X.length + (cat X).length + (([] : List (List UInt8))).length) := (by
      refine hre.mono ?_
      rintro e w' ⟨rfl, vl', X', h1, h2, h3, h4, h5⟩
      have hcb : Cb w' w.heap.size (.int .i64 (a : Int)) (.int .i64 (b : Int)) (.bool false) := (h5.block _ hc1.lt hne).trans hc1
      obtain ⟨q0, q1, _⟩ := hcb.cells
      refine ⟨rfl, q0, q1, vl', X', ?_, h1, h3, h4⟩
      have hb4 := Bt.set (g := g) (Bt.of (Below.refl _ w')) 4 (.int .i64 (0 : Int))
      exact ⟨hE1.scr, (hE1.low.trans ((Bt.trans (Bt.of (Below.refl _ w1).drew) h5).low hE1.gW hE1.low.size)).trans (hb4.low hE1.gW (Nat.le_trans hE1.low.size (Bt.trans (Bt.of (Below.refl _ w1).drew) h5).size)), hE1.gW, h1.setU 0, h2.bt h1 hb4, hE1.hp, Nat.zero_le _⟩)
    clear hre
    have e0d : w1.drew.cell? ⟨w.heap.size, 0, none⟩ = some (.int .i64 (a : Int)) := e0
    have e1d : w1.drew.cell? ⟨w.heap.size, 1, none⟩ = some (.int .i64 (b : Int)) := e1
    go_wp2_with fail
    go_region_held3 (fun w' => w'.cell? ⟨w.heap.size, 0, none⟩ = some (.int .i64 (a : Int)) ∧ w'.cell? ⟨w.heap.size, 1, none⟩ = some (.int .i64 (b : Int))) (go_keep)
      (first | (go_at_call 84; refine hre2.mono ?_; rintro e w3 ⟨rfl, y0, y1, HQ⟩))
    obtain ⟨vl', X', hE4, hEb, hcat, hlen⟩ := HQ.out
    have HC4 : Hid (cat X' = putE (cat X) a b (([] : List (List UInt8)))) := hcat
    have HL4 : Hid (512 * X'.length ≤ 512 * X.length + (cat X).length + S.length) := (by show _ ≤ _; omega)
    obtain ⟨_, _, _, _, z4, _⟩ := hEb.cells
    have zf := hEb.frozen 4
    have hne2 : w.heap.size ≠ (⟨g, 4, none⟩ : Addr).block := hne
    have hb3 : w3.heap[w.heap.size]? = _ := (rfl : w3.heap[w.heap.size]? = w3.heap[w.heap.size]?)
    have x0 : (w3.setCell ⟨g, 4, none⟩ (.int .i64 0)).cell? ⟨w.heap.size, 0, none⟩ = some (.int .i64 (a : Int)) := (by
      rw [← y0]
      unfold World.cell?
      dsimp only
      rw [heap_setCell_other _ _ _ _ hne2])
    have HE4 : Hid (Ed W g vs S (p + 1 : Nat) vl' X' 0 en (w3.setCell ⟨g, 4, none⟩ (.int .i64 0))) := hE4
    have z4b : (w3.setCell ⟨g, 4, none⟩ (.int .i64 0)).cell? ⟨g, 4, none⟩ = some (.int .i64 0) := hE4.box.cells.2.2.2.2.1
    have zfb : (w3.setCell ⟨g, 4, none⟩ (.int .i64 0)).frozen? ⟨g, 4, none⟩ = false := hE4.box.frozen 4
    clear hE4 hEb hcat hlen HQ y0 y1 e0 e1 e0d e1d hre2 hb3
    have HCU : Hid (curE a [] = 0) := rfl
    go_wp2
    go_ret
    refine ⟨rfl, vl', X', ?_, HC4.out, HL4.out⟩
    rw [HCU.out]
    exact HE4.out
end Go.Proofs.YtnlbjknfahhfaaaGreatDoor

/- The editor's putFurther and step of layer 13, walked. -/
set_option maxRecDepth 20000
namespace Go.Proofs.YtnlbjknfahhfaaaGreatDoor
open Go.RowKit

theorem EdQ.form {W : World} {g : Nat} {vs : Value} {S : List (List UInt8)} {B : Nat} {r : Except (Nat × Int) (List (List UInt8) × Nat × Bool × Nat)} {e : Ending} {w : World} (h : EdQ W g vs S B r e w) : ∃ z, e = .returned (.int .i64 z) := by
  unfold EdQ at h
  split at h
  · exact ⟨_, h.1⟩
  · exact ⟨_, h.1⟩
theorem EdQ.more {W : World} {g : Nat} {vs : Value} {S : List (List UInt8)} {B B' : Nat} {r : Except (Nat × Int) (List (List UInt8) × Nat × Bool × Nat)} {e : Ending} {w : World} (h : EdQ W g vs S B r e w) (hB : B ≤ B') : EdQ W g vs S B' r e w := by
  unfold EdQ at h ⊢
  split at h
  · exact h
  · obtain ⟨h1, vl, X, h2, h3, h4⟩ := h
    exact ⟨h1, vl, X, h2, h3, by omega⟩
set_option maxRecDepth 10000 in
set_option maxHeartbeats 8000000 in
theorem putFur_f (W : World) (g : Nat) (vs vl : Value) (S : List (List UInt8)) (p : Nat) (X : List Bck) (cur : Nat) (en : Bool) (w : World) (hE : Ed W g vs S p vl X cur en w) (hS : S.length ≤ 274877906944) (HTS : Hid (∀ s ∈ S, s.length ≤ 1099511627776)) (hp1 : p < S.length) (hX : X.length ≤ 549755813888) (hT : (cat X).length ≤ 137438953472)
    (r : Except (Nat × Int) (List (List UInt8) × Nat × Bool × Nat)) (HR : Hid ((if cur = 0 then .error (p + 1, 130) else doR (cat X) cur cur en (txR (p + 1) (S.drop (p + 1)))) = r)) :
    Calls Tryz.prog 53 #[.pointer (some ⟨g, 0, none⟩)] w fun e w' => EdQ W g vs S (512 * X.length + (cat X).length + S.length) r e w' := by
  obtain ⟨_, _, _, _, c4, _⟩ := hE.box.cells
  by_cases h0 : cur = 0
  · have hr := HR.out
    rw [if_pos h0] at hr
    subst hr
    subst h0
    go_enter Tryz.func53, Tryz.ntmps53
    go_wp2
    go_ret
    exact ⟨rfl, by decide, _, _, _, _, _, rfl, hE⟩
  · have hc0 : ((cur : Int) == 0) = false := beq_eq_false_iff_ne.2 (by omega)
    have hr := HR.out
    rw [if_neg h0] at hr
    have hdo := edo_f W g vs vl S p X cur en (w.drewN 1) (hE.keep (Below.dN (Below.refl _ w) 1)) hS HTS hp1 hX hT cur cur true (Nat.le_refl _) hE.hc _ rfl
    have hdo2 : Calls Tryz.prog 55 (#[.pointer (some ⟨g, 0, none⟩), .agg #[.int .i64 (cur : Int), .int .i64 (cur : Int), .bool true]] ++ #[]) (w.drewN 1) fun e w' => ∃ v, e = .returned v ∧ True ∧ (∃ z, v = .int .i64 z ∧ EdQ W g vs S (512 * X.length + (cat X).length + S.length) r (.returned (.int .i64 z)) w') := (by
      refine hdo.mono ?_
      intro e w' hq
      obtain ⟨z, rfl⟩ := hq.form
      refine ⟨_, rfl, trivial, z, rfl, ?_⟩
      rw [← hr]
      exact hq)
    have c4d : (w.drewN 1).cell? ⟨g, 4, none⟩ = some (.int .i64 (cur : Int)) := c4
    clear hdo hr HR hE
    go_enter Tryz.func53, Tryz.ntmps53
    go_wp2_with fail
    refine wp_region_noPanic ?_
    refine wp_region_held_drew (S := fun _ => True) (by kernel_rfl) trivial (fun _ => ?_)
    refine go_take 0 8 _ (.pointer (some ⟨g, 0, none⟩)) rfl (by kernel_rfl) (by kernel_rfl) (by kernel_rfl) (by kernel_rfl) (fun _ _ _ h => h) (Or.inl ⟨by kernel_rfl, fun u _ => by kernel_rfl⟩) trivial ?_
    simp only [Act.put, List.setIfInBounds_toArray, List.set_cons_zero, List.set_cons_succ]
    refine go_take 1 9 _ (.pointer (some ⟨g, 0, none⟩)) rfl (by kernel_rfl) (by kernel_rfl) (by kernel_rfl) (by kernel_rfl) (fun _ _ _ h => h) (Or.inl ⟨by kernel_rfl, fun u _ => by kernel_rfl⟩) trivial ?_
    simp only [Act.put, List.setIfInBounds_toArray, List.set_cons_zero, List.set_cons_succ]
    refine go_take 2 10 _ (.pointer (some ⟨g, 0, none⟩)) rfl (by kernel_rfl) (by kernel_rfl) (by kernel_rfl) (by kernel_rfl) (fun _ _ _ h => h) (Or.inl ⟨by kernel_rfl, fun u _ => by kernel_rfl⟩) trivial ?_
    simp only [Act.put, List.setIfInBounds_toArray, List.set_cons_zero, List.set_cons_succ]
    refine go_take 3 11 _ (.pointer (some ⟨g, 4, none⟩)) rfl (by kernel_rfl) (by kernel_rfl) (by kernel_rfl) (by kernel_rfl) (fun _ _ _ h => h) (Or.inl ⟨by kernel_rfl, fun u _ => by kernel_rfl⟩) trivial ?_
    simp only [Act.put, List.setIfInBounds_toArray, List.set_cons_zero, List.set_cons_succ]
    refine go_take 5 13 _ (.pointer (some ⟨g, 0, none⟩)) rfl (by kernel_rfl) (by kernel_rfl) (by kernel_rfl) (by kernel_rfl) (fun _ _ _ h => h) (Or.inl ⟨by kernel_rfl, fun u _ => by kernel_rfl⟩) trivial ?_
    simp only [Act.put, List.setIfInBounds_toArray, List.set_cons_zero, List.set_cons_succ]
    refine go_take 6 14 _ (.pointer (some ⟨g, 0, none⟩)) rfl (by kernel_rfl) (by kernel_rfl) (by kernel_rfl) (by kernel_rfl) (fun _ _ _ h => h) (Or.inl ⟨by kernel_rfl, fun u _ => by kernel_rfl⟩) trivial ?_
    simp only [Act.put, List.setIfInBounds_toArray, List.set_cons_zero, List.set_cons_succ]
    refine go_take 7 15 _ (.pointer (some ⟨g, 4, none⟩)) rfl (by kernel_rfl) (by kernel_rfl) (by kernel_rfl) (by kernel_rfl) (fun _ _ _ h => h) (Or.inl ⟨by kernel_rfl, fun u _ => by kernel_rfl⟩) trivial ?_
    simp only [Act.put, List.setIfInBounds_toArray, List.set_cons_zero, List.set_cons_succ]
    refine ef_two 4 12 _ 8 16 _ rfl (by kernel_rfl) rfl (by kernel_rfl) (by kernel_rfl) (by kernel_rfl) (by kernel_rfl) (.int .i64 (cur : Int)) _ (load_int c4d (.tmp 11) (by kernel_rfl) (by kernel_rfl)) trivial (.int .i64 (cur : Int)) _ (load_int c4d (.tmp 15) (by kernel_rfl) (by kernel_rfl)) trivial ?_ ?_
    · simp only [Act.put, List.setIfInBounds_toArray, List.set_cons_zero, List.set_cons_succ]
      refine go_val 8 16 _ rfl (by kernel_rfl) (by kernel_rfl) (by kernel_rfl) (.int .i64 (cur : Int)) _ (load_int c4d (.tmp 15) (by kernel_rfl) (by kernel_rfl)) trivial ?_
      simp only [Act.put, List.setIfInBounds_toArray, List.set_cons_zero, List.set_cons_succ]
      refine go_take 9 17 _ (.agg #[.int .i64 (cur : Int), .int .i64 (cur : Int), .bool true]) rfl (by kernel_rfl) (by kernel_rfl) (by kernel_rfl) (by kernel_rfl) (fun _ _ _ h => h) (Or.inl ⟨by kernel_rfl, fun u _ => by kernel_rfl⟩) trivial ?_
      simp only [Act.put, List.setIfInBounds_toArray, List.set_cons_zero, List.set_cons_succ]
      refine go_callE 10 18 _ rfl (by kernel_rfl) (by kernel_rfl) (by kernel_rfl) 55 (.func 55) #[.tmp 8, .tmp 17] #[106, 109] (by kernel_rfl) #[] (by kernel_rfl) #[.pointer (some ⟨g, 0, none⟩), .agg #[.int .i64 (cur : Int), .int .i64 (cur : Int), .bool true]] (by kernel_rfl) (enters_of Tryz.func55 (by kernel_rfl) rfl) _ hdo2 ?_
      rintro _ w2 _ ⟨z, rfl, HQ⟩
      simp only [Act.put, List.setIfInBounds_toArray, List.set_cons_zero, List.set_cons_succ]
      refine go_take 11 2 _ (.int .i64 z) rfl (by kernel_rfl) (by kernel_rfl) (by kernel_rfl) (by kernel_rfl) (fun _ _ _ h => h) (Or.inl ⟨by kernel_rfl, fun u _ => by kernel_rfl⟩) trivial ?_
      simp only [Act.put, List.setIfInBounds_toArray, List.set_cons_zero, List.set_cons_succ]
      refine wpAnyH_done (by kernel_rfl) ?_ _
      refine NoPanic.normal ?_
      go_wp2
      go_ret
      exact HQ
    · simp only [Act.put, List.setIfInBounds_toArray, List.set_cons_zero, List.set_cons_succ]
      refine go_val 4 12 _ rfl (by kernel_rfl) (by kernel_rfl) (by kernel_rfl) (.int .i64 (cur : Int)) _ (load_int c4d (.tmp 11) (by kernel_rfl) (by kernel_rfl)) trivial ?_
      simp only [Act.put, List.setIfInBounds_toArray, List.set_cons_zero, List.set_cons_succ]
      refine go_take 9 17 _ (.agg #[.int .i64 (cur : Int), .int .i64 (cur : Int), .bool true]) rfl (by kernel_rfl) (by kernel_rfl) (by kernel_rfl) (by kernel_rfl) (fun _ _ _ h => h) (Or.inl ⟨by kernel_rfl, fun u _ => by kernel_rfl⟩) trivial ?_
      simp only [Act.put, List.setIfInBounds_toArray, List.set_cons_zero, List.set_cons_succ]
      refine go_callE 10 18 _ rfl (by kernel_rfl) (by kernel_rfl) (by kernel_rfl) 55 (.func 55) #[.tmp 8, .tmp 17] #[106, 109] (by kernel_rfl) #[] (by kernel_rfl) #[.pointer (some ⟨g, 0, none⟩), .agg #[.int .i64 (cur : Int), .int .i64 (cur : Int), .bool true]] (by kernel_rfl) (enters_of Tryz.func55 (by kernel_rfl) rfl) _ hdo2 ?_
      rintro _ w2 _ ⟨z, rfl, HQ⟩
      simp only [Act.put, List.setIfInBounds_toArray, List.set_cons_zero, List.set_cons_succ]
      refine go_take 11 2 _ (.int .i64 z) rfl (by kernel_rfl) (by kernel_rfl) (by kernel_rfl) (by kernel_rfl) (fun _ _ _ h => h) (Or.inl ⟨by kernel_rfl, fun u _ => by kernel_rfl⟩) trivial ?_
      simp only [Act.put, List.setIfInBounds_toArray, List.set_cons_zero, List.set_cons_succ]
      refine wpAnyH_done (by kernel_rfl) ?_ _
      refine NoPanic.normal ?_
      go_wp2
      go_ret
      exact HQ
/-- what the next line comes to -/
def sdR (p : Nat) (s : List UInt8) (r T : List (List UInt8)) (cur : Nat) (en : Bool) : Except (Nat × Int) (List (List UInt8) × Nat × Bool × Nat) := match sdE p s r T cur en with
  | .error e => .error e
  | .ok (T1, c1, e1, q, _) => .ok (T1, c1, e1, q)
theorem sdR_do {p : Nat} {s : List UInt8} {r T : List (List UInt8)} {cur a b : Nat} {tx : Bool} (hf : fdB s = true) (hm : s.dropLast ≠ mkB) (h : stE p s.dropLast r T cur = dodE T a b tx (p + 1) r) : sdR p s r T cur false = doR T a b false (doE tx (p + 1) r) := by
  unfold sdR sdE
  rw [if_pos hf, if_neg (by decide), if_neg hm, h]
  unfold dodE doR
  cases doE tx (p + 1) r with
  | error e => rfl
  | ok x => rfl
set_option maxRecDepth 10000 in
set_option maxHeartbeats 16000000 in
theorem step_f (W : World) (g : Nat) (vs vl : Value) (S : List (List UInt8)) (p : Nat) (X : List Bck) (cur : Nat) (en : Bool) (w : World) (hE : Ed W g vs S p vl X cur en w) (hS : S.length ≤ 274877906944) (HTS : Hid (∀ s ∈ S, s.length ≤ 1099511627776)) (hp1 : p < S.length) (hX : X.length ≤ 549755813888) (hT : (cat X).length ≤ 137438953472)
    (r : Except (Nat × Int) (List (List UInt8) × Nat × Bool × Nat)) (HR : Hid (sdR p S[p] (S.drop (p + 1)) (cat X) cur en = r)) :
    Calls Tryz.prog 31 #[.pointer (some ⟨g, 0, none⟩)] w fun e w' => EdQ W g vs S (512 * X.length + (cat X).length + S.length) r e w' := by
  have HE : Hid (Ed W g vs S p vl X cur en w) := hE
  clear hE
  cases hf : fdB S[p] with
  | false =>
    have HNX : Hid (nxE S p = ([], 3)) := (by show _ = _; unfold nxE; rw [dif_pos hp1, if_neg (by rw [hf]; decide)])
    have hr := HR.out
    unfold sdR sdE at hr
    rw [if_neg (by rw [hf]; decide)] at hr
    subst hr
    clear HR hf
    go_enter Tryz.func31, Tryz.ntmps31
    go_wp2_with fail
    refine (eline_f W g vs vl S p X cur en w HE.out (by omega) HTS [] 3 HNX).mono ?_
    rintro e w1 ⟨rfl, hb1⟩
    have HE1 : Hid (Ed W g vs S p vl X cur en w1) := HE.out.keep hb1
    go_wp2
    go_ret
    exact ⟨rfl, by decide, _, _, _, _, _, rfl, HE1.out⟩
  | true =>
    have hts := HTS.out S[p] (List.getElem_mem _)
    obtain ⟨t, ht⟩ : ∃ t, S[p].dropLast = t := ⟨_, rfl⟩
    have htl : t.length ≤ 1099511627776 := by rw [← ht, List.length_dropLast]; omega
    have HNX : Hid (nxE S p = (t, 0)) := (by show _ = _; unfold nxE; rw [dif_pos hp1, if_pos hf, ht])
    have HDO : Hid (∀ (a b : Nat) (tx : Bool), t ≠ mkB → stE p t (S.drop (p + 1)) (cat X) cur = dodE (cat X) a b tx (p + 1) (S.drop (p + 1)) → en = false → doR (cat X) a b false (doE tx (p + 1) (S.drop (p + 1))) = r) := (by
      intro a b tx h1 h2 h3
      rw [← HR.out, h3]
      exact (sdR_do hf (by rw [ht]; exact h1) (by rw [ht]; exact h2)).symm)
    have HRR : Hid ((if en = true then .error (p + 1, 7) else if t = mkB then .ok (cat X, cur, true, p + 1) else match stE p t (S.drop (p + 1)) (cat X) cur with
        | .error e => .error e
        | .ok (T1, c1, q, _) => .ok (T1, c1, false, q)) = r) := (by
      show _ = _
      rw [← HR.out]
      unfold sdR sdE
      rw [if_pos hf, ht]
      cases en with
      | true => rfl
      | false =>
        simp only [Bool.false_eq_true, if_false]
        by_cases hm : t = mkB
        · rw [if_pos hm, if_pos hm]
        · rw [if_neg hm, if_neg hm]
          cases stE p t (S.drop (p + 1)) (cat X) cur with
          | error e => rfl
          | ok x => rfl)
    clear hf ht HR hts
    have hln := eline_f W g vs vl S p X cur en w HE.out (by omega) HTS t 0 HNX
    cases en with
    | true =>
      have hr := HRR.out
      rw [if_pos rfl] at hr
      subst hr
      clear HRR HDO
      go_enter Tryz.func31, Tryz.ntmps31
      go_wp2_with fail
      refine hln.mono ?_
      rintro e w1 ⟨rfl, hb1⟩
      have HE1 : Hid (Ed W g vs S p vl X cur true w1) := HE.out.keep hb1
      obtain ⟨_, _, _, _, _, c5⟩ := HE1.out.box.cells
      go_wp2
      go_ret
      exact ⟨rfl, by decide, _, _, _, _, _, rfl, HE1.out⟩
    | false =>
      by_cases h1 : t = mkB
      · have hr := HRR.out
        rw [if_neg (by decide), if_pos h1] at hr
        subst hr
        unfold mkB at h1
        subst h1
        clear HRR HDO
        go_enter Tryz.func31, Tryz.ntmps31
        go_wp2_with fail
        refine hln.mono ?_
        rintro e w1 ⟨rfl, hb1⟩
        have HE1 : Hid (Ed W g vs S p vl X cur false w1) := HE.out.keep hb1
        have HE2 : Hid (Ed W g vs S p vl X cur true (w1.setCell ⟨g, 5, none⟩ (.bool true))) := HE1.out.setE
        have HE3 : Hid (Ed W g vs S (p + 1) vl X cur true ((w1.setCell ⟨g, 5, none⟩ (.bool true)).setCell ⟨g, 1, none⟩ (.int .i64 ((p : Int) + 1)))) := HE2.out.setP (p + 1) (by omega) _ (by omega)
        obtain ⟨_, _, _, _, _, c5⟩ := HE1.out.box.cells
        have f5 := HE1.out.box.frozen 5
        obtain ⟨_, d1, _, _, _, _⟩ := HE2.out.box.cells
        have f1 := HE2.out.box.frozen 1
        go_wp2
        go_ret
        exact ⟨rfl, _, X, HE3.out, rfl, by omega⟩
      · have k1 : (t == [92, 32, 78, 111, 32, 110, 101, 119, 108, 105, 110, 101, 32, 97, 116, 32, 101, 110, 100, 32, 111, 102, 32, 102, 105, 108, 101]) = false := beq_eq_false_iff_ne.2 h1
        have hr0 := HRR.out
        rw [if_neg (by decide), if_neg h1] at hr0
        by_cases h2 : t = shB
        · have hr2 : (if cur = 0 ∨ (cat X).getD (cur - 1) [] = [] then .error (p + 1, 130) else .ok ((cat X).set (cur - 1) ((cat X).getD (cur - 1) []).tail, cur, false, p + 1)) = r := (by
            rw [← hr0]
            unfold stE
            rw [if_pos h2]
            split <;> rfl)
          have HR2 : Hid ((if cur = 0 ∨ (cat X).getD (cur - 1) [] = [] then .error (p + 1, 130) else .ok ((cat X).set (cur - 1) ((cat X).getD (cur - 1) []).tail, cur, false, p + 1)) = r) := hr2
          unfold shB at h2
          subst h2
          clear HRR HDO hr0 hr2 h1 k1
          go_enter Tryz.func31, Tryz.ntmps31
          go_wp2_with fail
          refine hln.mono ?_
          rintro e w1 ⟨rfl, hb1⟩
          have HE1 : Hid (Ed W g vs S p vl X cur false w1) := HE.out.keep hb1
          obtain ⟨_, _, _, _, _, c5⟩ := HE1.out.box.cells
          go_wp2_with fail
          refine (cutCur_f W g vs vl S p X cur false w1 HE1.out (by omega) hp1 hX (by omega) r HR2).mono ?_
          intro e w2 hq
          obtain ⟨z, rfl⟩ := hq.form
          have HQ : Hid (EdQ W g vs S (512 * X.length + (cat X).length + S.length) r (.returned (.int .i64 z)) w2) := hq.more (by omega)
          clear hq
          go_wp2
          go_ret
          exact HQ.out
        · have k2 : (t == [115, 47, 46, 47, 47]) = false := beq_eq_false_iff_ne.2 h2
          by_cases h3 : t = [97]
          · have HR2 : Hid ((if cur = 0 then .error (p + 1, 130) else doR (cat X) cur cur false (txR (p + 1) (S.drop (p + 1)))) = r) := (by
              show _ = _
              rw [← hr0]
              unfold stE
              rw [if_neg h2, if_pos h3]
              split
              · rfl
              · unfold dodE doE doR
                rw [if_pos rfl]
                cases txR (p + 1) (S.drop (p + 1)) with
                | error e => rfl
                | ok x => rfl)
            subst h3
            clear HRR HDO hr0 h1 k1 h2 k2
            go_enter Tryz.func31, Tryz.ntmps31
            go_wp2_with fail
            refine hln.mono ?_
            rintro e w1 ⟨rfl, hb1⟩
            have HE1 : Hid (Ed W g vs S p vl X cur false w1) := HE.out.keep hb1
            obtain ⟨_, _, _, _, _, c5⟩ := HE1.out.box.cells
            go_wp2_with fail
            refine (putFur_f W g vs vl S p X cur false w1 HE1.out hS HTS hp1 hX hT r HR2).mono ?_
            intro e w2 hq
            obtain ⟨z, rfl⟩ := hq.form
            have HQ : Hid (EdQ W g vs S (512 * X.length + (cat X).length + S.length) r (.returned (.int .i64 z)) w2) := hq
            clear hq
            go_wp2
            go_ret
            exact HQ.out
          · have k3 : (t == [97]) = false := beq_eq_false_iff_ne.2 h3
            have HR2 : Hid ((match cmF t with
                | none => .error (p + 1, 3)
                | some (i, j, tx) => if ((cat X).length : Int) < j then .error (p + 1, 2) else doR (cat X) i.toNat j.toNat false (doE tx (p + 1) (S.drop (p + 1)))) = r) := (by
              show _ = _
              rw [← hr0]
              unfold stE
              rw [if_neg h2, if_neg h3]
              cases cmF t with
              | none => rfl
              | some x =>
                obtain ⟨i, j, tx⟩ := x
                dsimp only
                split
                · rfl
                · unfold dodE doR
                  cases doE tx (p + 1) (S.drop (p + 1)) with
                  | error e => rfl
                  | ok x => rfl)
            clear HRR HDO hr0 h1 h2 h3
            go_enter Tryz.func31, Tryz.ntmps31
            go_wp2_with fail
            refine hln.mono ?_
            rintro e w1 ⟨rfl, hb1⟩
            have HE1 : Hid (Ed W g vs S p vl X cur false w1) := HE.out.keep hb1
            obtain ⟨_, _, _, _, _, c5⟩ := HE1.out.box.cells
            go_wp2_with fail
            refine (commandFrom_f t w1 (by omega)).mono ?_
            rintro e w2 ⟨x, y, tx, rb, rfl, hcm, hxy, hb2⟩
            have HE2 : Hid (Ed W g vs S p vl X cur false w2) := HE1.out.keep hb2
            have hr2 := HR2.out
            rw [hcm] at hr2
            cases rb with
            | false =>
              have HR3 : Hid (.error (p + 1, 3) = r) := hr2
              have hbB : Below w2.heap.size w2 (w2.alloc (.cells #[.int .i64 x, .int .i64 y, .bool tx] 109)) := (Below.refl _ w2).alloc (Nat.le_refl _) _
              have HE3 : Hid (Ed W g vs S p vl X cur false (w2.alloc (.cells #[.int .i64 x, .int .i64 y, .bool tx] 109))) := HE2.out.keep hbB
              clear hr2 hcm
              go_wp2
              go_ret
              have hr3 := HR3.out
              subst hr3
              exact ⟨rfl, by decide, _, _, _, _, _, rfl, HE3.out⟩
            | true =>
              rw [if_pos rfl] at hcm hr2
              have hbd := cmF_bd hcm
              dsimp only at hr2
              obtain ⟨a, rfl⟩ := Int.eq_ofNat_of_zero_le hbd.1
              obtain ⟨b, rfl⟩ := Int.eq_ofNat_of_zero_le (by omega : 0 ≤ y)
              rw [Int.toNat_natCast, Int.toNat_natCast] at hr2
              have hbB : Below w2.heap.size w2 (w2.alloc (.cells #[.int .i64 (a : Int), .int .i64 (b : Int), .bool tx] 109)) := (Below.refl _ w2).alloc (Nat.le_refl _) _
              have hCb : Cb (w2.alloc (.cells #[.int .i64 (a : Int), .int .i64 (b : Int), .bool tx] 109)) w2.heap.size (.int .i64 (a : Int)) (.int .i64 (b : Int)) (.bool tx) := _root_.Go.heap_alloc_new w2 _
              obtain ⟨w3, hw3⟩ : ∃ w3, w2.alloc (.cells #[.int .i64 (a : Int), .int .i64 (b : Int), .bool tx] 109) = w3 := ⟨_, rfl⟩
              rw [hw3] at hbB hCb
              have HE3 : Hid (∀ n, Ed W g vs S p vl X cur false (w3.drewN n)) := fun n => (HE2.out.keep hbB).keep (Below.dN (Below.refl _ w3) n)
              obtain ⟨q0, q1, q2⟩ := hCb.cells
              obtain ⟨_, _, _, d3, _, _⟩ := (HE3.out 0).box.cells
              have d3' : w3.cell? ⟨g, 3, none⟩ = some (.int .i64 ((cat X).length : Int)) := d3
              obtain ⟨tl, htl⟩ : ∃ tl, (cat X).length = tl := ⟨_, rfl⟩
              rw [htl] at d3' hr2
              have HTL : Hid ((cat X).length = tl) := htl
              clear hcm htl d3
              by_cases hlt : tl < b
              · have HR3 : Hid (.error (p + 1, 2) = r) := (by
                  show _ = _
                  rw [if_pos (by omega)] at hr2
                  exact hr2)
                have l1 : (tl : Int) < (b : Int) := by omega
                clear hr2
                go_wp2_with fail
                go_quiet (fail)
                go_wp2
                go_ret
                have hr3 := HR3.out
                subst hr3
                exact ⟨rfl, by decide, _, _, _, _, _, rfl, HE3.out _⟩
              · have HR3 : Hid (doR (cat X) a b false (doE tx (p + 1) (S.drop (p + 1))) = r) := (by
                  show _ = _
                  rw [if_neg (by omega)] at hr2
                  exact hr2)
                have l1 : decide ((tl : Int) < (b : Int)) = false := decide_eq_false (by omega)
                clear hr2
                go_wp2_with fail
                go_quiet (fail)
                have hab : a ≤ b := by omega
                have hbT : b ≤ (cat X).length := by have := HTL.out; omega
                have q0' : (w3.drewN nq).cell? ⟨w2.heap.size, 0, none⟩ = some (.int .i64 (a : Int)) := q0
                have q1' : (w3.drewN nq).cell? ⟨w2.heap.size, 1, none⟩ = some (.int .i64 (b : Int)) := q1
                have q2' : (w3.drewN nq).cell? ⟨w2.heap.size, 2, none⟩ = some (.bool tx) := q2
                go_wp2_with fail
                refine (edo_f W g vs vl S p X cur false _ (HE3.out _) hS HTS hp1 hX hT a b tx hab hbT _ rfl).mono ?_
                intro e w4 hq
                rw [HR3.out] at hq
                obtain ⟨z, rfl⟩ := hq.form
                have HQ : Hid (EdQ W g vs S (512 * X.length + (cat X).length + S.length) r (.returned (.int .i64 z)) w4) := hq
                clear hq
                go_wp2
                go_ret
                exact HQ.out
end Go.Proofs.YtnlbjknfahhfaaaGreatDoor

/- What a command's step does to sizes, and where it goes on; plain mathematics. -/
set_option maxRecDepth 20000
namespace Go.Proofs.YtnlbjknfahhfaaaGreatDoor
open Ln

def Bd (T : List (List UInt8)) : Prop := ∀ s ∈ T, s.length ≤ 1099511627776
theorem cmF_le {s : List UInt8} {i j : Int} {t : Bool} (h : cmF s = some (i, j, t)) : i ≤ j := by
  have key : ∀ {x : List UInt8} {p n : Int}, lnsP x = some (p, n) → 1 ≤ n := by
    intro x p n h
    unfold lnsP at h
    split at h
    · split at h
      · cases h
        omega
      · cases h
    · split at h
      · cases h
        omega
      · cases h
  unfold cmF at h
  split at h
  · cases h
  · split at h
    · split at h
      · cases h
        exact Int.le_refl _
      · cases h
    · split at h
      · split at h
        · cases h
        · rename_i p n hq
          have := key hq
          cases h
          omega
      · split at h
        · split at h
          · cases h
          · rename_i p n hq
            have := key hq
            cases h
            omega
        · cases h
theorem txR_bd : ∀ {r : List (List UInt8)} {p q : Nat} {l r2 : List (List UInt8)}, Bd r → txR p r = .ok (l, q, r2) → Bd l ∧ l.length + p < q
  | [], p, q, l, r2, _, h => by cases h
  | s :: r, p, q, l, r2, hb, h => by
    simp only [txR] at h
    split at h
    · split at h
      · cases h
        exact ⟨fun s hs => (by cases hs), by simp⟩
      · split at h
        · cases h
        · rename_i l' q' r' h'
          cases h
          have ih := txR_bd (fun x hx => hb x (by simp [hx])) h'
          refine ⟨fun x hx => ?_, by simp only [List.length_cons]; omega⟩
          rcases List.mem_cons.1 hx with rfl | hx
          · have := hb s (by simp)
            rw [List.length_dropLast]
            omega
          · exact ih.1 x hx
    · cases h
theorem dod_bd {T r T1 r2 : List (List UInt8)} {i j : Nat} {tx : Bool} {p c1 q : Nat} (hT : Bd T) (hr : Bd r) (hij : i ≤ j) (h : dodE T i j tx p r = .ok (T1, c1, q, r2)) : Bd T1 ∧ p ≤ q ∧ T1.length + p ≤ T.length + q ∧ r2 = r.drop (q - p) := by
  unfold dodE doE at h
  split at h
  · cases h
  · rename_i l q' r' h'
    cases h
    have hput : ∀ x ∈ putE T i j l, x ∈ T ∨ x ∈ l := by
      intro x hx
      unfold putE at hx
      rcases List.mem_append.1 hx with hx | hx
      · exact .inl (List.mem_of_mem_take hx)
      · rcases List.mem_append.1 hx with hx | hx
        · exact .inr hx
        · exact .inl (List.mem_of_mem_drop hx)
    have hlen : (putE T i j l).length ≤ T.length + l.length := by
      unfold putE
      simp only [List.length_append, List.length_take, List.length_drop]
      omega
    split at h'
    · obtain ⟨h1, h2⟩ := txR_bd hr h'
      have h3 := txR_drop h'
      exact ⟨fun x hx => (hput x hx).elim (hT x) (h1 x), h3.1, by omega, h3.2⟩
    · cases h'
      exact ⟨fun x hx => (hput x hx).elim (hT x) (fun hq => by cases hq), Nat.le_refl _, by simp at hlen; omega, by simp⟩
theorem sd_bd {p : Nat} {s : List UInt8} {r T T1 r2 : List (List UInt8)} {cur c1 q : Nat} {en e1 : Bool} (hT : Bd T) (hr : Bd r) (h : sdE p s r T cur en = .ok (T1, c1, e1, q, r2)) : Bd T1 ∧ p < q ∧ T1.length + p ≤ T.length + q ∧ r2 = r.drop (q - (p + 1)) := by
  unfold sdE at h
  split at h
  · split at h
    · cases h
    · split at h
      · cases h
        exact ⟨hT, by omega, by omega, by simp⟩
      · split at h
        · cases h
        · rename_i T2 c2 q2 r3 hs
          cases h
          unfold stE at hs
          split at hs
          · split at hs
            · cases hs
            · cases hs
              refine ⟨fun x hx => ?_, by omega, by rw [List.length_set]; omega, by simp⟩
              rcases List.mem_or_eq_of_mem_set hx with hx | rfl
              · exact hT x hx
              · rw [List.length_tail]
                by_cases hc : cur - 1 < T.length
                · rw [List.getD_eq_getElem?_getD, List.getElem?_eq_getElem hc]
                  have := hT T[cur - 1] (List.getElem_mem _)
                  simp only [Option.getD_some]
                  omega
                · rw [List.getD_eq_getElem?_getD, List.getElem?_eq_none (by omega)]
                  simp
          · split at hs
            · split at hs
              · cases hs
              · obtain ⟨h1, h2, h3, h4⟩ := dod_bd hT hr (Nat.le_refl _) hs
                exact ⟨h1, by omega, by omega, h4⟩
            · split at hs
              · cases hs
              · rename_i i j tx hcm
                split at hs
                · cases hs
                · have hb := cmF_le hcm
                  obtain ⟨h1, h2, h3, h4⟩ := dod_bd hT hr (by omega) hs
                  exact ⟨h1, by omega, by omega, h4⟩
  · cases h
/-- what is there with k line feeds -/
def resK (T : List (List UInt8)) (k : Nat) : List (List UInt8) := (T.take k).map (· ++ [10]) ++ T.drop k
theorem resK_len (T : List (List UInt8)) (k : Nat) : (resK T k).length = T.length := by
  unfold resK
  simp only [List.length_append, List.length_map, List.length_take, List.length_drop]
  omega
theorem resK_get (T : List (List UInt8)) (k : Nat) (h : k < T.length) : (resK T k)[k]'(by rw [resK_len]; exact h) = T[k] := by
  unfold resK
  rw [List.getElem_append_right (by simp; omega)]
  simp [Nat.min_eq_left (Nat.le_of_lt h)]
theorem resK_set (T : List (List UInt8)) (k : Nat) (h : k < T.length) : (resK T k).set k (T[k] ++ [10]) = resK T (k + 1) := by
  have l1 : ((T.take k).map (· ++ [10])).length = k := by rw [List.length_map, List.length_take]; omega
  unfold resK
  rw [List.set_append_right _ _ (by omega), l1, Nat.sub_self, List.drop_eq_getElem_cons h, List.set_cons_zero, List.take_succ_eq_append_getElem h, List.map_append]
  simp
theorem resK_res (T : List (List UInt8)) (en : Bool) : resE T en = resK T (T.length - (if en = true then 1 else 0)) := rfl
end Go.Proofs.YtnlbjknfahhfaaaGreatDoor

/- The reference's reader of lines, walked: its place, its first fault; the next line. -/
set_option maxRecDepth 20000
namespace Go.Proofs.YtnlbjknfahhfaaaGreatDoor
open Go.RowKit

section
variable {u u' : World} {R : Nat} {vL : Value} {p fa fe : Int}
end
theorem grown_two {w u v : World} {r : Option Nat} (h : w.grownBy u r) (h' : u.grownBy v r) : w.grownBy v r :=
  ⟨h'.os.trans h.os, h'.tape.trans h.tape, h'.output.trans h.output, Nat.le_trans h.size h'.size, fun k hk hr => (h'.block k (Nat.lt_of_lt_of_le hk h.size) hr).trans (h.block k hk hr)⟩
theorem nxt_drop {L : List (List UInt8)} {p : Nat} (hp : p < L.length) : nxt p (L.drop p) = if fdB L[p] = true then .ok (L[p].dropLast, L.drop (p + 1)) else .error (p + 1, 3) := by
  rw [List.drop_eq_getElem_cons hp]
  rfl
theorem nxt_end {L : List (List UInt8)} {p : Nat} (hp : L.length ≤ p) : nxt p (L.drop p) = .error (p + 1, 1) := by
  rw [List.drop_eq_nil_of_le hp]
  rfl
end Go.Proofs.YtnlbjknfahhfaaaGreatDoor

/- The reference's reader, walked: does the next line begin with some bytes? -/
set_option maxRecDepth 20000
namespace Go.Proofs.YtnlbjknfahhfaaaGreatDoor
open Go.RowKit
attribute [local go_sem] ByteArray.extract_mk no_at

theorem pre_take (sg l : List UInt8) : sg.isPrefixOf l = (decide (sg.length ≤ l.length) && (l.take sg.length == sg)) := by
  rw [Bool.eq_iff_iff, List.isPrefixOf_iff_prefix, Bool.and_eq_true, decide_eq_true_eq, beq_iff_eq]
  constructor
  · rintro ⟨t, rfl⟩
    simp
  · rintro ⟨_, h⟩
    refine ⟨l.drop sg.length, ?_⟩
    have h2 := List.take_append_drop sg.length l
    rw [h] at h2
    exact h2
end Go.Proofs.YtnlbjknfahhfaaaGreatDoor

/- The reference's reader, walked: a line with a sign, behind which the mark may stand. -/
set_option maxRecDepth 20000
namespace Go.Proofs.YtnlbjknfahhfaaaGreatDoor
open Go.RowKit
attribute [local go_sem] ByteArray.extract_mk no_at

theorem HS.away {w w' : World} {R : Nat} {lo : Option Addr} {lc : Nat} {L : List (List UInt8)} (h : HS w (.slice lo L.length lc) L) (hg : w.grownBy w' (some R)) (hR : ∀ a, lo = some a → a.block ≠ R) : HS w' (.slice lo L.length lc) L := by
  rcases h with h | ⟨ad, c, hv, hnc, hc⟩
  · exact .inl h
  · refine .inr ⟨ad, c, hv, hnc, fun j u hj => ?_⟩
    cases hv
    have h1 := hc j u hj
    have hb : (ad.add j).block = ad.block := by unfold Addr.add; split <;> rfl
    have hlt := World.block_lt_of_cell? w _ h1
    rw [World.cell?_of_block (w := w) (hg.block _ hlt (fun e => hR ad rfl (by rw [← hb]; exact Option.some.inj e)))]
    exact h1
end Go.Proofs.YtnlbjknfahhfaaaGreatDoor

/- The code's reader of lines, walked: what is wrong is thrown; the next line; the line between. -/
set_option maxRecDepth 20000
namespace Go.Proofs.YtnlbjknfahhfaaaGreatDoor
open Go.RowKit
attribute [local go_sem] ByteArray.extract_mk no_at

/-- a fault -/
def fltO (a z : Int) : Obj := .cells #[.int .i64 a, .iface 26 (.int .i64 z)] 74
section
variable {u u' : World} {R : Nat} {vL : Value} {p : Int}
end
/-- what is wrong is thrown -/
def Thr (a z : Int) (x : Ending) (w' : World) : Prop := ∃ g, x = .panicked [{ v := .iface 72 (.pointer (some ⟨g, 0, none⟩)), recovered := false }] ∧ w'.heap[g]? = some (fltO a z)
/-- what a line that is read leaves behind -/
def LnQ (R : Nat) (_vL : Value) (_p : Nat) (X : Except (Nat × Int) (List UInt8 × List (List UInt8))) (w : World) (x : Ending) (w' : World) : Prop :=
  match X with
  | .error (a, e) => Thr (a : Int) e x w' ∧ w.grownBy w' (some R)
  | .ok (s, _) => x = .returned (.string ⟨(s ++ [10]).toArray⟩) ∧ ∃ n, w' = w.drewN n
theorem drop_feed {s : List UInt8} (h : fdB s = true) : s.dropLast ++ [10] = s := (fd_form h).symm
end Go.Proofs.YtnlbjknfahhfaaaGreatDoor

/- The code's Run of layer 13, walked. -/
set_option maxRecDepth 20000
namespace Go.Proofs.YtnlbjknfahhfaaaGreatDoor
open Go.RowKit

theorem HB.of_own {w : World} {B : Nat} {v : Value} {T : List (List UInt8)} (h : w.ownsRow B 9 1 v T.length (scells T)) (h0 : T ≠ []) : ∃ G cap, v = .slice (some ⟨G, 0, none⟩) T.length cap ∧ HB w B ⟨G, 0, cap, T⟩ := by
  have hc := h
  rcases h.2 with ⟨_, q⟩ | ⟨g, cap, cur, rfl, q2, q3, q4, _⟩
  · exact absurd (List.eq_nil_of_length_eq_zero q) h0
  · refine ⟨g, cap, rfl, q2, q4, cur, q3, fun j hj => ?_⟩
    dsimp only at hj ⊢
    have h1 := hc.cells (g := g) rfl j (.string ⟨T[j].toArray⟩) (by simp [scells, hj])
    rw [add_none, Lib.cell_of_heap q3] at h1
    exact h1
set_option maxRecDepth 10000 in
set_option maxHeartbeats 4000000 in
theorem result_f (W : World) (g : Nat) (vs vl : Value) (S : List (List UInt8)) (p : Nat) (X : List Bck) (cur : Nat) (en : Bool) (w : World) (hE : Ed W g vs S p vl X cur en w) (hX : X.length ≤ 549755813888) (hT : (cat X).length ≤ 137438953472) (HBd : Hid (Bd (cat X))) :
    Calls Tryz.prog 32 #[.pointer (some ⟨g, 0, none⟩)] w fun e w' => ∃ v, e = .returned v ∧ HS w' v (resE (cat X) en) ∧ Below w.heap.size w w' := by
  have hal := all_f w g _ vs vl _ _ _ en X hE.box hE.bks hX (by omega)
  have HE : Hid (Ed W g vs S p vl X cur en w) := hE
  clear hE
  obtain ⟨T, hTd⟩ : ∃ T, cat X = T := ⟨_, rfl⟩
  rw [hTd] at hal hT HBd ⊢
  clear hTd
  have HRS : Hid (resE T en = resK T (T.length - (if en = true then 1 else 0))) := resK_res T en
  rw [HRS.out]
  by_cases h0 : T = []
  · subst h0
    go_enter Tryz.func32, Tryz.ntmps32
    go_wp2_with fail
    refine hal.mono ?_
    rintro e w1 ⟨v, rfl, hO, hB1⟩
    obtain ⟨_, _, _, _, _, c5⟩ := (HE.out.keep hB1).box.cells
    have hH := holds_of hO
    obtain ⟨vo, vc, rfl⟩ := Holds.form hH
    have HH : Hid (HS w1 (.slice vo 0 vc) []) := hH
    clear hO hH
    cases en with
    | true =>
      go_wp2
      go_loopw [23] (fun i wr => i = .int .i64 0 ∧ w1 = wr) (fun _ _ => 0)
      case atStart => exact ⟨by go_num, rfl⟩
      case round =>
        obtain ⟨rfl, rfl⟩ := hrel
        go_wp2
        go_ret
        exact ⟨_, rfl, HH.out, hB1⟩
    | false =>
      go_wp2
      go_loopw [23] (fun i wr => i = .int .i64 0 ∧ w1 = wr) (fun _ _ => 0)
      case atStart => exact ⟨by go_num, rfl⟩
      case round =>
        obtain ⟨rfl, rfl⟩ := hrel
        go_wp2
        go_ret
        exact ⟨_, rfl, HH.out, hB1⟩
  · have hpos : 0 < T.length := List.length_pos_iff.2 h0
    obtain ⟨F, hF⟩ : ∃ F, T.length - (if en = true then 1 else 0) = F := ⟨_, rfl⟩
    have hFe : (en = true → (T.length : Int) - 1 = (F : Int)) ∧ (en = false → T.length = F) := ⟨fun q => by rw [q, if_pos rfl] at hF; omega, fun q => by rw [q, if_neg (by decide)] at hF; omega⟩
    have hFl : F ≤ T.length := by omega
    rw [hF]
    clear hF
    obtain ⟨n, hn⟩ : ∃ n, T.length = n := ⟨_, rfl⟩
    have HNN : Hid (T.length = n) := hn
    have hp2 : (0 : Int) < (n : Int) := by omega
    rw [hn] at hpos hFe hFl hT
    clear hn
    have key : ∀ (w1 : World) (G cap : Nat), Below w.heap.size w w1 → HB w1 w.heap.size ⟨G, 0, cap, T⟩ → Hid (HB w1 w.heap.size ⟨G, 0, cap, resK T 0⟩) := fun w1 G cap _ h => by show HB _ _ _; simpa [resK] using h
    cases en with
    | true =>
      have hF1 := hFe.1 rfl
      clear hFe
      go_enter Tryz.func32, Tryz.ntmps32
      go_wp2_with fail
      refine hal.mono ?_
      rintro e w1 ⟨v, rfl, hO, hB1⟩
      obtain ⟨_, _, _, _, _, c5⟩ := (HE.out.keep hB1).box.cells
      obtain ⟨G, cap, hv, hHB⟩ := HB.of_own hO h0
      rw [HNN.out] at hv
      subst hv
      have hK := key w1 G cap hB1 hHB
      clear hO hHB key
      go_wp2
      go_loopw [23] (fun i wr => ∃ k : Nat, k ≤ F ∧ i = .int .i64 (k : Int) ∧ Below w.heap.size w wr ∧ Hid (HB wr w.heap.size ⟨G, 0, cap, resK T k⟩)) (fun i _ => F - (intOf i).toNat)
      case atStart => exact ⟨0, Nat.zero_le _, by go_num, hB1, hK⟩
      case round =>
        clear hK hB1 c5
        obtain ⟨k, hk, rfl, hbr, hK⟩ := hrel
        by_cases hlt : k < F
        · have hkT : k < T.length := by have := HNN.out; omega
          have hc := hK.out.cell k (by dsimp only; rw [resK_len]; exact hkT)
          dsimp only at hc
          rw [resK_get T k hkT, Nat.zero_add] at hc
          have HS2 : Hid (HB (wr.setCell ⟨G, k, none⟩ (.string ⟨(T[k] ++ [10]).toArray⟩)) w.heap.size ⟨G, 0, cap, resK T (k + 1)⟩) := (by
            have h := hK.out.set k (by dsimp only; rw [resK_len]; exact hkT) (T[k] ++ [10])
            dsimp only at h
            rw [resK_set T k hkT, Nat.zero_add] at h
            exact h)
          have hsl := HBd.out T[k] (List.getElem_mem _)
          have hgN : w.heap.size ≤ G := hK.out.1
          obtain ⟨s, hs⟩ : ∃ s, T[k] = s := ⟨_, rfl⟩
          rw [hs] at hc HS2 hsl
          obtain ⟨c0, c1⟩ := hc
          clear hs hK
          have q1 := add_fits (x := s) (y := [10]) (by unfold Fits; simp only [List.length_cons, List.length_nil]; omega) Tryz.prog
          have i1 : 0 ≤ (k : Int) := by omega
          have i2 : (k : Int) < (n : Int) := by omega
          have i3 : (k : Int) < (F : Int) := by omega
          have hb2 : Below w.heap.size w (wr.setCell ⟨G, k, none⟩ (.string ⟨(s ++ [10]).toArray⟩)) := hbr.setCell (p := ⟨G, k, none⟩) hgN _
          go_wp2
          exact ⟨⟨k + 1, by omega, by go_num, hb2, HS2⟩, by simp [intOf]; omega⟩
        · have ek : k = F := by omega
          subst ek
          have hend : decide ((k : Int) < (k : Int)) = false := decide_eq_false (by omega)
          have hR := hK.out.all
          unfold Bck.v at hR
          dsimp only at hR
          have HR2 : Hid (HS wr (.slice (some ⟨G, 0, none⟩) n cap) (resK T k)) := (by
            have h := hR
            rw [resK_len, HNN.out] at h
            exact h)
          clear hR hK
          go_wp2
          go_ret
          exact ⟨_, rfl, HR2.out, hbr⟩
    | false =>
      have hF1 := hFe.2 rfl
      clear hFe
      subst hF1
      go_enter Tryz.func32, Tryz.ntmps32
      go_wp2_with fail
      refine hal.mono ?_
      rintro e w1 ⟨v, rfl, hO, hB1⟩
      obtain ⟨_, _, _, _, _, c5⟩ := (HE.out.keep hB1).box.cells
      obtain ⟨G, cap, hv, hHB⟩ := HB.of_own hO h0
      rw [HNN.out] at hv
      subst hv
      have hK := key w1 G cap hB1 hHB
      clear hO hHB key
      go_wp2
      go_loopw [23] (fun i wr => ∃ k : Nat, k ≤ n ∧ i = .int .i64 (k : Int) ∧ Below w.heap.size w wr ∧ Hid (HB wr w.heap.size ⟨G, 0, cap, resK T k⟩)) (fun i _ => n - (intOf i).toNat)
      case atStart => exact ⟨0, Nat.zero_le _, by go_num, hB1, hK⟩
      case round =>
        clear hK hB1 c5
        obtain ⟨k, hk, rfl, hbr, hK⟩ := hrel
        by_cases hlt : k < n
        · have hkT : k < T.length := by have := HNN.out; omega
          have hc := hK.out.cell k (by dsimp only; rw [resK_len]; exact hkT)
          dsimp only at hc
          rw [resK_get T k hkT, Nat.zero_add] at hc
          have HS2 : Hid (HB (wr.setCell ⟨G, k, none⟩ (.string ⟨(T[k] ++ [10]).toArray⟩)) w.heap.size ⟨G, 0, cap, resK T (k + 1)⟩) := (by
            have h := hK.out.set k (by dsimp only; rw [resK_len]; exact hkT) (T[k] ++ [10])
            dsimp only at h
            rw [resK_set T k hkT, Nat.zero_add] at h
            exact h)
          have hsl := HBd.out T[k] (List.getElem_mem _)
          have hgN : w.heap.size ≤ G := hK.out.1
          obtain ⟨s, hs⟩ : ∃ s, T[k] = s := ⟨_, rfl⟩
          rw [hs] at hc HS2 hsl
          obtain ⟨c0, c1⟩ := hc
          clear hs hK
          have q1 := add_fits (x := s) (y := [10]) (by unfold Fits; simp only [List.length_cons, List.length_nil]; omega) Tryz.prog
          have i1 : 0 ≤ (k : Int) := by omega
          have i2 : (k : Int) < (n : Int) := by omega
          have hb2 : Below w.heap.size w (wr.setCell ⟨G, k, none⟩ (.string ⟨(s ++ [10]).toArray⟩)) := hbr.setCell (p := ⟨G, k, none⟩) hgN _
          go_wp2
          exact ⟨⟨k + 1, by omega, by go_num, hb2, HS2⟩, by simp [intOf]; omega⟩
        · have ek : k = n := by omega
          subst ek
          have hend : decide ((k : Int) < (k : Int)) = false := decide_eq_false (by omega)
          have hR := hK.out.all
          unfold Bck.v at hR
          dsimp only at hR
          have HR2 : Hid (HS wr (.slice (some ⟨G, 0, none⟩) k cap) (resK T k)) := (by
            have h := hR
            rw [resK_len, HNN.out] at h
            exact h)
          clear hR hK
          go_wp2
          go_ret
          exact ⟨_, rfl, HR2.out, hbr⟩
end Go.Proofs.YtnlbjknfahhfaaaGreatDoor

/- The code's Run of layer 13, walked: the commands of a text are done. -/
set_option maxRecDepth 20000
namespace Go.Proofs.YtnlbjknfahhfaaaGreatDoor
open Go.RowKit

/-- how Run ends -/
def RnQ (w : World) (R : Except (Nat × Int) (List (List UInt8))) (e : Ending) (w' : World) : Prop :=
  match R with
  | .error (a, z) => ∃ g, e = .returned (.tuple #[.slice none 0 0, .iface 72 (.pointer (some ⟨g, 0, none⟩))]) ∧ w'.heap[g]? = some (fltO (a : Int) z) ∧ Below w.heap.size w w'
  | .ok l => ∃ v, e = .returned (.tuple #[v, .nilIface]) ∧ HS w' v l ∧ Below w.heap.size w w'
theorem flat_mem {a : List (List UInt8)} {t : List UInt8} (h : t ∈ a) : t.length ≤ a.flatten.length := by
  induction a with
  | nil => cases h
  | cons s a ih =>
    rw [List.flatten_cons, List.length_append]
    rcases List.mem_cons.1 h with rfl | h
    · omega
    · have := ih h
      omega
set_option maxRecDepth 10000 in
set_option maxHeartbeats 8000000 in
theorem Run_f (t : List UInt8) (a : List (List UInt8)) (va : Value) (w : World) (ha : HS w va a) (htl : t.length ≤ 1099511627776) (hla : a.length ≤ 4194304) (HTA : Hid (∀ s ∈ a, s.length ≤ 1099511627776)) (R : Except (Nat × Int) (List (List UInt8))) (HR : Hid (edR t a = R)) :
    Calls Tryz.prog 11 #[.string ⟨t.toArray⟩, va] w fun e w' => RnQ w R e w' := by
  have hR := HR.out
  unfold edR at hR
  clear HR
  by_cases hlong : 1048576 < t.length
  · rw [if_pos hlong] at hR
    subst hR
    have HA : Hid ((w.alloc (fltO ((0 : Nat) : Int) 9)).heap[w.heap.size]? = some (fltO ((0 : Nat) : Int) 9) ∧ Below w.heap.size w (w.alloc (fltO ((0 : Nat) : Int) 9))) := ⟨heap_alloc_new w _, (Below.refl _ w).alloc (Nat.le_refl _) _⟩
    have i1 : (1048576 : Int) < (t.length : Int) := by omega
    go_enter Tryz.func11, Tryz.ntmps11
    go_wp2
    go_ret2
    exact ⟨_, rfl, HA.out.1, HA.out.2⟩
  · rw [if_neg hlong] at hR
    have i1 : ¬ (1048576 : Int) < (t.length : Int) := by omega
    have hsl := Ln.split_len t
    have HSB : Hid (∀ s ∈ Ln.splitL t, s.length ≤ 1099511627776) := (by
      intro s hs
      have h1 := congrArg List.length (Ln.split_join t)
      have h2 := flat_mem hs
      omega)
    have hs := nSplit_f t w htl
    have HR2 : Hid (runE (Ln.splitL t).length 0 (Ln.splitL t) (a.map bareT) 0 false = R) := hR
    clear hR
    obtain ⟨S, hSd⟩ : ∃ S, Ln.splitL t = S := ⟨_, rfl⟩
    rw [hSd] at hsl HSB hs HR2
    clear hSd
    have hSl : S.length ≤ 1048576 := by omega
    have hlong2 : t.length ≤ 1048576 := by omega
    go_enter Tryz.func11, Tryz.ntmps11
    go_wp2_with fail
    refine hs.mono ?_
    rintro e w1 ⟨vs, rfl, hown, hb1⟩
    have hScr : HS w1 vs S := holds_of hown
    obtain ⟨so, sc, rfl⟩ := Holds.form hScr
    clear hown hs
    go_wp2_with fail
    refine (bared_f a va w1 (HS.keep ha hb1 (Nat.le_refl _)) (by omega) HTA).mono ?_
    rintro e w2 ⟨rfl, hg2, hb2⟩
    have hnb : HB w2 w1.heap.size ⟨w1.heap.size, 0, a.length, a.map bareT⟩ := HB.new (Nat.le_refl _) (by simp) hg2
    have hin := inBlocks_f ⟨w1.heap.size, 0, a.length, a.map bareT⟩ w1.heap.size w2 hnb (by dsimp only; rw [List.length_map]; omega) hb2.size
    have hvv : (⟨w1.heap.size, 0, a.length, a.map bareT⟩ : Bck).v = .slice (some ⟨w1.heap.size, 0, none⟩) a.length a.length := (by unfold Bck.v; dsimp only; rw [List.length_map])
    rw [hvv] at hin
    dsimp only at hin
    rw [List.length_map] at hin
    clear hg2 hnb hvv
    go_wp2_with fail
    refine hin.mono ?_
    rintro e w3 ⟨vl, X0, rfl, hk3, hcat0, hlen0, hb3⟩
    obtain ⟨lo, lc, _, rfl, _⟩ := hk3.row
    have hb13 : Below w1.heap.size w1 w3 := hb2.trans (hb3.mono hb2.size)
    have hbB : Below w3.heap.size w3 (w3.alloc (.cells #[.slice so S.length sc, .int .i64 0, .slice (some ⟨lo, 0, none⟩) X0.length lc, .int .i64 (a.length : Int), .int .i64 0, .bool false] 81)) := (Below.refl _ w3).alloc (Nat.le_refl _) _
    have hE0 : Ed w1 w3.heap.size (.slice so S.length sc) S 0 (.slice (some ⟨lo, 0, none⟩) X0.length lc) X0 0 false (w3.alloc (.cells #[.slice so S.length sc, .int .i64 0, .slice (some ⟨lo, 0, none⟩) X0.length lc, .int .i64 (a.length : Int), .int .i64 0, .bool false] 81)) := (by
      refine ⟨hScr, hb13.trans (hbB.mono hb13.size), hb13.size, ?_, hk3.low hbB, Nat.zero_le _, Nat.zero_le _⟩
      have hl : (cat X0).length = a.length := by rw [hcat0, List.length_map]
      rw [hl]
      exact heap_alloc_new w3 _)
    have HE0 : Hid (Ed w1 w3.heap.size (.slice so S.length sc) S 0 (.slice (some ⟨lo, 0, none⟩) X0.length lc) X0 0 false (w3.alloc (.cells #[.slice so S.length sc, .int .i64 0, .slice (some ⟨lo, 0, none⟩) X0.length lc, .int .i64 (a.length : Int), .int .i64 0, .bool false] 81))) := hE0
    have hB0 : Below w.heap.size w w1 := hb1
    obtain ⟨K, hK⟩ : ∃ K, 2 * S.length + a.length = K := ⟨_, rfl⟩
    have HK : Hid (2 * S.length + a.length = K) := hK
    have HK2 : Hid (K ≤ 6291456) := (by show K ≤ _; omega)
    have HC0 : Hid (cat X0 = a.map bareT ∧ 512 * X0.length ≤ a.length + 512) := ⟨hcat0, hlen0⟩
    have HBa : Hid (Bd (a.map bareT)) := (by
      intro s hs
      obtain ⟨u, hu, rfl⟩ := List.mem_map.1 hs
      have h1 := HTA.out u hu
      have h2 : (bareT u).length ≤ u.length := (by
        unfold bareT
        split
        · rw [List.length_dropLast]; omega
        · exact Nat.le_refl _)
      omega)
    clear hE0 hcat0 hlen0 hk3 hin hb2 hb3 hK hbB
    go_wp2
    generalize w3.alloc (.cells #[.slice so S.length sc, .int .i64 0, .slice (some ⟨lo, 0, none⟩) X0.length lc, .int .i64 (a.length : Int), .int .i64 0, .bool false] 81) = W4 at HE0 ⊢
    generalize w3.heap.size = G at HE0 ⊢
    go_loopw [] (fun wr => ∃ (q : Nat) (vl : Value) (X : List Bck) (cur : Nat) (en : Bool) (f : Nat), Hid (Ed w1 G (.slice so S.length sc) S q vl X cur en wr) ∧ q ≤ S.length ∧ Hid (S.length - q ≤ f ∧ runE f q (S.drop q) (cat X) cur en = R) ∧ Hid (Bd (cat X) ∧ (cat X).length ≤ a.length + q ∧ 512 * X.length ≤ a.length + 512 + q * K)) (fun wr => S.length - edP G wr)
    case atStart =>
      refine ⟨0, _, X0, 0, false, S.length, HE0, Nat.zero_le _, (⟨Nat.le_refl _, ?_⟩ : _ ∧ _), (⟨?_, ?_, ?_⟩ : _ ∧ _ ∧ _)⟩
      · rw [HC0.out.1]; exact HR2.out
      · rw [HC0.out.1]; exact HBa.out
      · rw [HC0.out.1, List.length_map]; omega
      · have := HC0.out.2; omega
    case round =>
      clear HE0 HC0 HBa HR2
      obtain ⟨q, vl, X, cur, en, f, HE, hq, HF, HB⟩ := hrel
      have hmeas := edP_eq HE.out.box
      obtain ⟨c0, c1, _, _, _, _⟩ := HE.out.box.cells
      have hqK : q * K ≤ 1048576 * 6291456 := Nat.mul_le_mul (by omega) HK2.out
      have hXl : X.length ≤ 549755813888 := by have := HB.out.2.2; omega
      have hTl : (cat X).length ≤ 137438953472 := by have := HB.out.2.1; omega
      by_cases hlt : q < S.length
      · have l1 : (q : Int) < (S.length : Int) := by omega
        obtain ⟨r, hr⟩ : ∃ r, sdR q S[q] (S.drop (q + 1)) (cat X) cur en = r := ⟨_, rfl⟩
        have HRs : Hid (sdR q S[q] (S.drop (q + 1)) (cat X) cur en = r) := hr
        have hst := step_f w1 G _ vl S q X cur en wr HE.out (by omega) HSB hlt hXl hTl r HRs
        have HF2 : Hid ((match sdE q S[q] (S.drop (q + 1)) (cat X) cur en with
            | .error e => .error e
            | .ok (T1, c1, e1, q2, r2) => runE (f - 1) q2 r2 T1 c1 e1) = R) := (by
          show _ = _
          have h := HF.out.2
          have h1 := HF.out.1
          cases f with
          | zero => omega
          | succ f =>
            rw [List.drop_eq_getElem_cons hlt, runE] at h
            rw [Nat.add_sub_cancel, ← h]
            cases sdE q S[q] (S.drop (q + 1)) (cat X) cur en with
            | error e => rfl
            | ok x => rfl)
        have hfl : S.length - q ≤ f := HF.out.1
        have HLow : Hid (Below w.heap.size w w1) := hB0
        clear hr HF
        go_wp2_with fail
        refine hst.mono ?_
        intro e w5 hQ
        cases hsd : sdE q S[q] (S.drop (q + 1)) (cat X) cur en with
        | error kz =>
          obtain ⟨k, z⟩ := kz
          have hrr : r = .error (k, z) := (by rw [← HRs.out]; unfold sdR; rw [hsd])
          have hRR : R = .error (k, z) := (by rw [← HF2.out, hsd])
          clear HF2
          subst hRR
          subst hrr
          obtain ⟨rfl, hz, p5, vl5, X5, cur5, en5, rfl, hE5⟩ := hQ
          have hzb : (z != 0) = true := bne_iff_ne.2 hz
          have HE5 : Hid (Ed w1 G (.slice so S.length sc) S p5 vl5 X5 cur5 en5 w5) := hE5
          obtain ⟨_, d1, _, _, _, _⟩ := hE5.box.cells
          have hp5 := hE5.hp
          have hlow5 : Below w.heap.size w w5 := HLow.out.trans (hE5.low.mono HLow.out.size)
          have d1d : w5.drew.cell? ⟨G, 1, none⟩ = some (.int .i64 (p5 : Int)) := d1
          have hw : IntKind.i64.wrap ((p5 : Int) + 1) = (p5 : Int) + 1 := wrap_small _ (by omega) (by omega)
          have HA : Hid ((w5.drew.alloc (fltO ((p5 + 1 : Nat) : Int) z)).heap[w5.heap.size]? = some (fltO ((p5 + 1 : Nat) : Int) z) ∧ Below w.heap.size w (w5.drew.alloc (fltO ((p5 + 1 : Nat) : Int) z))) := ⟨heap_alloc_new w5.drew _, hlow5.drew.alloc hlow5.size _⟩
          clear hE5 hsd HRs
          go_wp2_with fail
          go_region_held3 (fun w' => w'.cell? ⟨G, 1, none⟩ = some (.int .i64 (p5 : Int))) (go_keep) (fail)
          go_wp2
          go_ret2
          exact ⟨_, rfl, HA.out.1, HA.out.2⟩
        | ok x =>
          obtain ⟨T1, c1', e1, q2, r2⟩ := x
          have hrr : r = .ok (T1, c1', e1, q2) := (by rw [← HRs.out]; unfold sdR; rw [hsd])
          have hRR : runE (f - 1) q2 r2 T1 c1' e1 = R := (by have h := HF2.out; rw [hsd] at h; exact h)
          subst hrr
          obtain ⟨rfl, vl5, X5, hE5, hcat5, hlen5⟩ := hQ
          obtain ⟨b1, b2, b3, b4⟩ := sd_bd HB.out.1 (fun s hs => HSB.out s (List.mem_of_mem_drop hs)) hsd
          have hp5 := hE5.hp
          have HE5 : Hid (Ed w1 G (.slice so S.length sc) S q2 vl5 X5 c1' e1 w5) := hE5
          have hm5 := edP_eq hE5.box
          have HF5 : Hid (S.length - q2 ≤ f - 1 ∧ runE (f - 1) q2 (S.drop q2) (cat X5) c1' e1 = R) := (by
            refine ⟨by omega, ?_⟩
            rw [hcat5, ← hRR, b4, List.drop_drop]
            congr 2
            omega)
          have HB5 : Hid (Bd (cat X5) ∧ (cat X5).length ≤ a.length + q2 ∧ 512 * X5.length ≤ a.length + 512 + q2 * K) := (by
            rw [hcat5]
            refine ⟨b1, by have := HB.out.2.1; omega, ?_⟩
            have h1 := HB.out.2.2
            have h2 := HB.out.2.1
            have h3 := HK.out
            have h4 : (q + 1) * K ≤ q2 * K := Nat.mul_le_mul_right _ b2
            rw [Nat.add_mul, Nat.one_mul] at h4
            omega)
          clear hE5 hcat5 hlen5 hsd hRR HF2 HRs b1 b4
          go_wp2
          exact ⟨⟨q2, vl5, X5, c1', e1, f - 1, HE5, hp5, HF5, HB5⟩, by rw [hm5, hmeas]; omega⟩
      · have eq : q = S.length := by omega
        have l1 : decide ((q : Int) < (S.length : Int)) = false := decide_eq_false (by omega)
        have hrs := result_f w1 G _ vl S q X cur en wr HE.out hXl hTl HB.out.1
        obtain ⟨RR, hRRd⟩ : ∃ RR, resE (cat X) en = RR := ⟨_, rfl⟩
        rw [hRRd] at hrs
        have hRR : R = .ok RR := (by
          have h := HF.out.2
          rw [List.drop_of_length_le (by omega), runE_nil, hRRd] at h
          exact h.symm)
        subst hRR
        clear hRRd
        have hlow5 : Below w.heap.size w wr := hB0.trans (HE.out.low.mono hB0.size)
        clear HF
        go_wp2_with fail
        refine hrs.mono ?_
        rintro e w5 ⟨v, rfl, hH5, hb5⟩
        obtain ⟨vo, vc, rfl⟩ := Holds.form hH5
        have HH5 : Hid (HS w5 (.slice vo RR.length vc) RR) := hH5
        clear hH5
        go_wp2
        go_ret2
        exact ⟨_, rfl, HH5.out, hlow5.trans (hb5.mono hlow5.size)⟩
end Go.Proofs.YtnlbjknfahhfaaaGreatDoor

/- The laws' own works of layer 13, walked: the chapter's first case. -/
set_option maxRecDepth 20000
namespace Go.Proofs.YtnlbjknfahhfaaaGreatDoor
open Go.RowKit

def ewA : List (List UInt8) := [[49, 10], [50, 10], [51, 10]]
def ewB : List (List UInt8) := [[49, 10], [46, 10]]
def ewL : List Ch := [⟨1, 2, 1, 1⟩]
def ewT : List UInt8 := [50, 44, 51, 99, 10, 46, 46, 10, 46, 10, 115, 47, 46, 47, 47, 10]
theorem ew_chk : chk ewL ewA.length ewB.length = 0 := by decide +kernel
theorem ew_prt : epT ewL ewB = ewT := by decide +kernel
theorem ew_run : edR ewT ewA = .ok ewB := by kernel_rfl
set_option maxRecDepth 10000 in
set_option maxHeartbeats 4000000 in
theorem eworks_f (w : World) (HTb : Hid (Tab10 w)) : Calls Tryz.prog 7 #[] w fun e w' => e = .returned (.bool true) ∧ Below w.heap.size w w' := by
  have HR : Hid (chk ewL ewA.length ewB.length = 0) := ew_chk
  have HT : Hid ((if (0 : Int) = 0 then epT ewL ewB else []) = ewT) := (by show _ = _; rw [if_pos rfl]; exact ew_prt)
  have HX : Hid (edR ewT ewA = .ok ewB) := ew_run
  have HTBB : Hid (∀ s ∈ ewB, s.length ≤ 1099511627776) := (by show ∀ s ∈ ewB, s.length ≤ 1099511627776; decide +kernel)
  have HTAA : Hid (∀ s ∈ ewA, s.length ≤ 1099511627776) := (by show ∀ s ∈ ewA, s.length ≤ 1099511627776; decide +kernel)
  obtain ⟨u1, hu1⟩ : ∃ u, w.alloc (.cells #[.int .i64 1, .int .i64 2, .int .i64 1, .int .i64 1] 48) = u := ⟨_, rfl⟩
  obtain ⟨u2, hu2⟩ : ∃ u, u1.alloc (.cells #[.string ⟨#[49, 10]⟩, .string ⟨#[50, 10]⟩, .string ⟨#[51, 10]⟩] 9) = u := ⟨_, rfl⟩
  obtain ⟨u3, hu3⟩ : ∃ u, u2.alloc (.cells #[.string ⟨#[49, 10]⟩, .string ⟨#[46, 10]⟩] 9) = u := ⟨_, rfl⟩
  have b1 : Below w.heap.size w u1 := by rw [← hu1]; exact (Below.refl _ w).alloc (Nat.le_refl _) _
  have b2 : Below u1.heap.size u1 u2 := by rw [← hu2]; exact (Below.refl _ u1).alloc (Nat.le_refl _) _
  have b3 : Below u2.heap.size u2 u3 := by rw [← hu3]; exact (Below.refl _ u2).alloc (Nat.le_refl _) _
  have s1 : u1.heap.size = w.heap.size + 1 := by rw [← hu1]; simp
  have s2 : u2.heap.size = w.heap.size + 1 + 1 := by rw [← hu2, World.size_alloc, s1]
  have hl0 : HCh u1 (.slice (some ⟨w.heap.size, 0, none⟩) 1 1) ewL := by rw [← hu1]; exact new_holds w #[.int .i64 1, .int .i64 2, .int .i64 1, .int .i64 1] 48 1 1 (by decide)
  have ha0 : HS u2 (.slice (some ⟨w.heap.size + 1, 0, none⟩) 3 3) ewA := by rw [← hu2, ← s1]; exact new_holds u1 #[.string ⟨#[49, 10]⟩, .string ⟨#[50, 10]⟩, .string ⟨#[51, 10]⟩] 9 3 3 (by decide)
  have hb0 : HS u3 (.slice (some ⟨w.heap.size + 1 + 1, 0, none⟩) 2 2) ewB := by rw [← hu3, ← s2]; exact new_holds u2 #[.string ⟨#[49, 10]⟩, .string ⟨#[46, 10]⟩] 9 2 2 (by decide)
  have hl3 : HCh u3 (.slice (some ⟨w.heap.size, 0, none⟩) 1 1) ewL := HCh.keep (HCh.keep hl0 b2 (Nat.le_refl _)) b3 (Nat.le_refl _)
  have ha3 : HS u3 (.slice (some ⟨w.heap.size + 1, 0, none⟩) 3 3) ewA := HS.keep ha0 b3 (Nat.le_refl _)
  have b12 := b1.trans (b2.mono b1.size)
  have b13 := b12.trans (b3.mono b12.size)
  have HTb3 : Hid (Tab10 u3) := HTb.out.on b13
  clear b1 b2 b3 b12 hl0 ha0
  go_enter Tryz.func7, Tryz.ntmps7
  go_wp2_with fail
  refine (ePrint_f ewL _ _ _ ewA ewB u3 hl3 ha3 hb0 (by decide) (by decide) (by decide) HTBB HTb3 0 HR ewT HT (by decide)).mono ?_
  rintro e w2 ⟨rfl, hB2⟩
  have hB02 := b13.trans (hB2.mono b13.size)
  clear hl3 ha3 hb0 b13 hB2 HTb3 HT HR HTb hu1 hu2 hu3 s1 s2
  unfold ewT at HX ⊢
  obtain ⟨u4, hu4⟩ : ∃ u, w2.alloc (.cells #[.string ⟨#[49, 10]⟩, .string ⟨#[50, 10]⟩, .string ⟨#[51, 10]⟩] 9) = u := ⟨_, rfl⟩
  have b4 : Below w2.heap.size w2 u4 := by rw [← hu4]; exact (Below.refl _ w2).alloc (Nat.le_refl _) _
  have ha4 : HS u4 (.slice (some ⟨w2.heap.size, 0, none⟩) 3 3) ewA := by rw [← hu4]; exact new_holds w2 #[.string ⟨#[49, 10]⟩, .string ⟨#[50, 10]⟩, .string ⟨#[51, 10]⟩] 9 3 3 (by decide)
  go_wp2_with fail
  refine (Run_f [50, 44, 51, 99, 10, 46, 46, 10, 46, 10, 115, 47, 46, 47, 47, 10] ewA _ u4 ha4 (by decide) (by decide) HTAA _ HX).mono ?_
  rintro e w3 ⟨v, rfl, hv, hB3⟩
  have hB04 := hB02.trans (b4.mono hB02.size)
  have hB03 := hB04.trans (hB3.mono hB04.size)
  obtain ⟨vo, vc, rfl⟩ := Holds.form hv
  clear ha4 b4 hB02 hB3 hu4 HX hB04
  have b5 : Below w3.heap.size w3 (w3.alloc (.cells #[.string ⟨#[49, 10]⟩, .string ⟨#[46, 10]⟩] 9)) := (Below.refl _ w3).alloc (Nat.le_refl _) _
  have hv5 := HS.keep hv b5 (Nat.le_refl _)
  have hw5 : HS (w3.alloc (.cells #[.string ⟨#[49, 10]⟩, .string ⟨#[46, 10]⟩] 9)) (.slice (some ⟨w3.heap.size, 0, none⟩) 2 2) ewB := new_holds w3 #[.string ⟨#[49, 10]⟩, .string ⟨#[46, 10]⟩] 9 2 2 (by decide)
  have hB05 := hB03.trans (b5.mono hB03.size)
  go_wp2_with fail
  refine (SameS_any _ _ ewB _ (by decide) hv5 hw5).mono ?_
  rintro e w6 ⟨rfl, hB6⟩
  go_wp2
  go_ret
  exact ⟨rfl, hB05.trans (hB6.mono hB05.size)⟩
end Go.Proofs.YtnlbjknfahhfaaaGreatDoor
