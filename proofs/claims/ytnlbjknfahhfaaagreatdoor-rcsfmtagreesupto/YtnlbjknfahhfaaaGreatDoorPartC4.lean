/-
  Texts that belong together, joined: EfRe, EfAl.
-/
import Derived.Test.YtnlbjknfahhfaaaGreatDoorPartC3
import Derived.Deep.RegionHeld3
import Derived.Lib.AppendZerosOnto

/- The code's replace of layer 13's blocks, walked: lines are taken out, others put in. -/
set_option maxRecDepth 20000
namespace Go.Proofs.YtnlbjknfahhfaaaGreatDoor
open Go.RowKit

/-- an editor in its box -/
def Eb (w : World) (g : Nat) (vs vl : Value) (p cnt cur : Int) (en : Bool) : Prop := w.heap[g]? = some (.cells #[vs, .int .i64 p, vl, .int .i64 cnt, .int .i64 cur, .bool en] 81 (0, 0))
section
variable {w w' : World} {g : Nat} {vs vl : Value} {p cnt cur : Int} {en : Bool}
theorem Eb.lt (h : Eb w g vs vl p cnt cur en) : g < w.heap.size := (Array.getElem?_eq_some_iff.1 h).1
theorem Eb.low (h : Eb w g vs vl p cnt cur en) (hb : Below w.heap.size w w') : Eb w' g vs vl p cnt cur en := (hb.block _ h.lt).trans h
theorem Eb.cells (h : Eb w g vs vl p cnt cur en) : w.cell? ⟨g, 0, none⟩ = some vs ∧ w.cell? ⟨g, 1, none⟩ = some (.int .i64 p) ∧ w.cell? ⟨g, 2, none⟩ = some vl ∧ w.cell? ⟨g, 3, none⟩ = some (.int .i64 cnt) ∧ w.cell? ⟨g, 4, none⟩ = some (.int .i64 cur) ∧ w.cell? ⟨g, 5, none⟩ = some (.bool en) := by
  unfold Eb at h
  refine ⟨?_, ?_, ?_, ?_, ?_, ?_⟩ <;> (rw [Lib.cell_of_heap h]; rfl)
theorem Eb.frozen (h : Eb w g vs vl p cnt cur en) (j : Nat) : w.frozen? ⟨g, j, none⟩ = false := by
  unfold Eb at h
  simp [World.frozen?, h]
theorem Eb.setP (h : Eb w g vs vl p cnt cur en) (z : Int) : Eb (w.setCell ⟨g, 1, none⟩ (.int .i64 z)) g vs vl z cnt cur en := heap_setCell_same w g 1 _ _ _ h
theorem Eb.setL (h : Eb w g vs vl p cnt cur en) (z : Value) : Eb (w.setCell ⟨g, 2, none⟩ z) g vs z p cnt cur en := heap_setCell_same w g 2 _ _ _ h
theorem Eb.setC (h : Eb w g vs vl p cnt cur en) (z : Int) : Eb (w.setCell ⟨g, 3, none⟩ (.int .i64 z)) g vs vl p z cur en := heap_setCell_same w g 3 _ _ _ h
theorem Eb.setU (h : Eb w g vs vl p cnt cur en) (z : Int) : Eb (w.setCell ⟨g, 4, none⟩ (.int .i64 z)) g vs vl p cnt z en := heap_setCell_same w g 4 _ _ _ h
theorem Eb.setE (h : Eb w g vs vl p cnt cur en) (z : Bool) : Eb (w.setCell ⟨g, 5, none⟩ (.bool z)) g vs vl p cnt cur z := heap_setCell_same w g 5 _ _ _ h
/-- a store into the editor's box leaves the blocks -/
theorem Eb.bks {N : Nat} {v : Value} {X : List Bck} (h : Eb w g vs vl p cnt cur en) (hk : Bks w N v X) (q : Nat) (z : Value) : Bks (w.setCell ⟨g, q, none⟩ z) N v X := by
  have kp : ∀ (k : Nat) (cs : Array Value) (t : TypeId), w.heap[k]? = some (.cells cs t (0, 0)) → t ≠ 81 → (w.setCell ⟨g, q, none⟩ z).heap[k]? = w.heap[k]? := by
    intro k cs t hk2 ht
    have hne : k ≠ g := by
      rintro rfl
      unfold Eb at h
      rw [h] at hk2
      cases hk2
      exact ht rfl
    exact heap_setCell_other _ _ _ _ hne
  obtain ⟨o, c, cs, h1, h2, h3, h4, h5⟩ := hk.row
  refine ⟨⟨o, c, cs, h1, h2, h3, (kp _ _ _ h4 (by decide)).trans h4, h5⟩, hk.ne, fun y hy => ?_, hk.apart⟩
  obtain ⟨_, _, cs2, q2, _⟩ := hk.blk y hy
  exact (hk.blk y hy).keep (kp _ _ _ q2 (by decide))
end
/-- all that was there is as it was, but the box -/
structure Bt (g : Nat) (w w' : World) : Prop where
  os : w'.os = w.os
  tape : w'.tape = w.tape
  output : w'.output = w.output
  size : w.heap.size ≤ w'.heap.size
  block : ∀ k, k < w.heap.size → k ≠ g → w'.heap[k]? = w.heap[k]?
section
variable {g : Nat} {a b c : World}
theorem Bt.of (h : Below a.heap.size a b) : Bt g a b := ⟨h.os, h.tape, h.output, h.size, fun k hk _ => h.block k hk⟩
theorem Bt.trans (h : Bt g a b) (k : Bt g b c) : Bt g a c := ⟨k.os.trans h.os, k.tape.trans h.tape, k.output.trans h.output, Nat.le_trans h.size k.size, fun i hi hg => (k.block i (Nat.lt_of_lt_of_le hi h.size) hg).trans (h.block i hi hg)⟩
theorem Bt.set (h : Bt g a b) (q : Nat) (v : Value) : Bt g a (b.setCell ⟨g, q, none⟩ v) := by
  have hb := (Below.refl g b).setCell (p := ⟨g, q, none⟩) (Nat.le_refl _) v
  exact ⟨hb.os.trans h.os, hb.tape.trans h.tape, hb.output.trans h.output, Nat.le_trans h.size hb.size, fun k hk hg => (heap_setCell_other _ _ _ _ hg).trans (h.block k hk hg)⟩
theorem Bt.low {N : Nat} (h : Bt g a b) (hN : N ≤ g) (hs : N ≤ a.heap.size) : Below N a b := ⟨h.os, h.tape, h.output, h.size, fun k hk => h.block k (by omega) (by omega)⟩
end
theorem pair_mid {α : Type} {R : α → α → Prop} {X Y : List α} {i j : Nat} (hX : X.Pairwise R) (hY : Y.Pairwise R) (h1 : ∀ x ∈ X, ∀ y ∈ Y, R x y) (h2 : ∀ x ∈ X, ∀ y ∈ Y, R y x) (hij : i ≤ j) : (X.take i ++ (Y ++ X.drop j)).Pairwise R := by
  have hd : (X.drop i).Pairwise R := hX.sublist (List.drop_sublist _ _)
  rw [List.pairwise_append, List.pairwise_append]
  refine ⟨hX.sublist (List.take_sublist _ _), ⟨hY, hX.sublist (List.drop_sublist _ _), fun y hy x hx => h2 x (List.mem_of_mem_drop hx) y hy⟩, fun x hx z hz => ?_⟩
  rcases List.mem_append.1 hz with hz | hz
  · exact h1 x (List.mem_of_mem_take hx) z hz
  · have hs : (X.take i ++ X.drop i).Pairwise R := by rw [List.take_append_drop]; exact hX
    rw [List.pairwise_append] at hs
    refine hs.2.2 x hx z ?_
    have e : X.drop j = (X.drop i).drop (j - i) := by rw [List.drop_drop]; congr 1; omega
    rw [e] at hz
    exact List.mem_of_mem_drop hz
theorem holds_take {w : World} {ao : Option Addr} {n c k : Nat} {xs : List Value} (h : Holds w (.slice ao n c) n xs) (_hl : xs.length = n) (hk : k ≤ n) (h0 : ∃ o, ao = some ⟨o, 0, none⟩) : Holds w (.slice ao k c) k (xs.take k) := by
  obtain ⟨o, rfl⟩ := h0
  rcases h with ⟨h, _⟩ | ⟨ad, c', h, h3, hc⟩
  · cases h
  · cases h
    refine .inr ⟨_, _, rfl, by omega, fun j u hj => hc j u ?_⟩
    rw [List.getElem?_take] at hj
    split at hj
    · exact hj
    · cases hj
theorem holds_drop {w : World} {ao : Option Addr} {n c k : Nat} {xs : List Value} (h : Holds w (.slice ao n c) n xs) (hl : xs.length = n) (hk : k ≤ n) (h0 : ∃ o, ao = some ⟨o, 0, none⟩) : Holds w (.slice (slG ao c k) (n - k) (c - k)) (n - k) (xs.drop k) := by
  obtain ⟨o, rfl⟩ := h0
  rcases h with ⟨h, _⟩ | ⟨ad, c', h, h3, hc⟩
  · cases h
  · cases h
    unfold slG
    by_cases hq : c = k
    · rw [if_pos hq]
      refine .inr ⟨_, _, rfl, by omega, fun j u hj => ?_⟩
      have hl2 := (List.getElem?_eq_some_iff.1 hj).1
      rw [List.length_drop] at hl2
      omega
    · rw [if_neg hq, Option.map_some]
      refine .inr ⟨_, _, rfl, by omega, fun j u hj => ?_⟩
      rw [List.getElem?_drop] at hj
      have := hc (k + j) u hj
      rw [add_none] at this
      rw [add_none, add_none, Nat.add_assoc]
      exact this
theorem run_slH {T : TypeId} (hT : Tryz.prog.underlying T = some (.slice (Tryz.prog.elem T))) (hs : ∀ u : World, (sizeOf (Tryz.prog.elem T)).run Tryz.prog u = .ok 1 u) (g o n cap k : Nat) (hk : k ≤ cap) (u : World) : (Instr.slice T (.slice (some ⟨g, o, none⟩) n cap) none (some (.int .i64 (k : Int))) none).run Tryz.prog u = .ok (.slice (some ⟨g, o, none⟩) k cap) u := by
  rw [run_slice_h (P := Tryz.prog) u T (some ⟨g, o, none⟩) n cap hT .i64 k (by omega) (by omega), hs u]
  simp [Result.andThen, sliced, add_none]
theorem cat_len_take (X : List Bck) (i j : Nat) (hij : i ≤ j) : (X.take i).length + (X.drop (j + 1)).length ≤ X.length - 1 + (if j + 1 ≤ X.length then 0 else 1) := by
  rw [List.length_take, List.length_drop]
  split <;> omega
/-- the new list of blocks -/
theorem rep_fin {w w3 : World} {g N : Nat} {vs vl vY : Value} {p cnt cur : Int} {en : Bool} {X Y : List Bck} {i1 i2 G N2 : Nat} (hE : Eb w g vs vl p cnt cur en) (hk : Bks w N vl X) (hY : Bks w N vY Y) (hG : ∀ y ∈ Y, y.g = G) (hnG : ∀ x ∈ X, x.g ≠ G) (hi : i1 ≤ i2) (hi2 : i2 < X.length) (hN : N ≤ w.heap.size)
    (hN2 : i1 + Y.length + (X.length - (i2 + 1)) = N2) (hh : w3.heap[w.heap.size]? = some (.cells ((X.map Bck.v).take i1 ++ (Y.map Bck.v ++ (X.map Bck.v).drop (i2 + 1))).toArray 23 (0, 0))) (hb : Below w.heap.size w w3) :
    Eb (w3.setCell ⟨g, 2, none⟩ (.slice (some ⟨w.heap.size, 0, none⟩) N2 N2)) g vs (.slice (some ⟨w.heap.size, 0, none⟩) N2 N2) p cnt cur en ∧ Bks (w3.setCell ⟨g, 2, none⟩ (.slice (some ⟨w.heap.size, 0, none⟩) N2 N2)) N (.slice (some ⟨w.heap.size, 0, none⟩) N2 N2) (X.take i1 ++ (Y ++ X.drop (i2 + 1))) := by
  have hE3 := hE.low hb
  refine ⟨hE3.setL _, hE3.bks ?_ 2 _⟩
  refine Bks.new ?_ hN ?_ ?_ ?_ ?_
  · rw [List.map_append, List.map_append, List.map_take, List.map_drop]
    exact hh
  · simp only [List.length_append, List.length_take, List.length_drop]
    omega
  · have := List.length_pos_iff.2 hY.ne
    intro q
    have := congrArg List.length q
    simp only [List.length_append, List.length_nil] at this
    omega
  · intro x hx
    rcases List.mem_append.1 hx with hx | hx
    · exact (hk.blk x (List.mem_of_mem_take hx)).low hb
    · rcases List.mem_append.1 hx with hx | hx
      · exact (hY.blk x hx).low hb
      · exact (hk.blk x (List.mem_of_mem_drop hx)).low hb
  · exact pair_mid hk.apart hY.apart (fun x hx y hy => .inl (by rw [hG y hy]; exact hnG x hx)) (fun x hx y hy => .inl (by rw [hG y hy]; exact fun q => hnG x hx q.symm)) (by omega)
/-- what replace leaves -/
def ReQ (w : World) (g N : Nat) (vs : Value) (p cur : Int) (en : Bool) (T : List (List UInt8)) (B : Nat) (e : Ending) (w' : World) : Prop :=
  e = .returned (.tuple #[]) ∧ ∃ vl X, Eb w' g vs vl p (cat X).length cur en ∧ Bks w' N vl X ∧ cat X = T ∧ 512 * X.length ≤ B ∧ Bt g w w'
set_option maxRecDepth 10000 in
set_option maxHeartbeats 8000000 in
theorem replace_f (w : World) (g N : Nat) (vs vl vp : Value) (p cur : Int) (en : Bool) (X : List Bck) (P : List (List UInt8)) (hE : Eb w g vs vl p (cat X).length cur en) (hk : Bks w N vl X) (hg : N ≤ g) (hP : HS w vp P) (hX : X.length ≤ 549755813888) (hT : (cat X).length ≤ 274877906944) (hPl : P.length ≤ 274877906944)
    (a b : Nat) (hab : a ≤ b) (hb : b ≤ (cat X).length) :
    Calls Tryz.prog 84 #[.pointer (some ⟨g, 2, none⟩), .int .i64 (a : Int), .int .i64 (b : Int), vp] w fun e w' => ReQ w g N vs p cur en (putE (cat X) a b P) (512 * X.length + (cat X).length + P.length) e w' := by
  obtain ⟨o, c, _, rfl, hXc, _, _, _⟩ := hk.row
  obtain ⟨po, pc, rfl⟩ := Holds.form hP
  have hwN : N ≤ w.heap.size := Nat.le_trans hg (Nat.le_of_lt hE.lt)
  have hf1 := efind_f N g 2 _ _ _ X w hk hE.cells.2.2.1 (by omega) (by omega) a (by omega)
  have hf2 := efind_f N g 2 _ _ _ X w hk hE.cells.2.2.1 (by omega) (by omega) b hb
  go_enter Tryz.func84, Tryz.ntmps84
  go_wp2_with fail
  refine hf1.mono ?_
  rintro e w1 ⟨i1, k1, rfl, F1, rfl⟩
  go_wp2_with fail
  refine hf2.mono ?_
  rintro e w1 ⟨i2, k2, rfl, F2, rfl⟩
  clear hf1 hf2
  have hio := F1.order F2 hab
  have hi1 := F1.lt
  have hi2 := F2.lt
  have hle1 := F1.le
  have hle2 := F2.le
  have H1 : Hid ((cat X).take a = cat (X.take i1) ++ X[i1].xs.take k1) := F1.take
  have H2 : Hid ((cat X).drop b = X[i2].xs.drop k2 ++ cat (X.drop (i2 + 1))) := F2.drop
  have hB1 := hk.blk X[i1] (List.getElem_mem _)
  have hB2 := hk.blk X[i2] (List.getElem_mem _)
  have hA1 := hB1.take k1 hle1
  have hA2 := hB2.drop k2 hle2
  obtain ⟨o', h1', h2', _, hol, hcl⟩ := hk.at
  cases h1'
  have c1 := hcl i1 hi1
  have c2 := hcl i2 hi2
  have hc1 := hB1.2.1
  obtain ⟨L1, hL1⟩ : ∃ L, X[i1].xs.take k1 = L := ⟨_, rfl⟩
  obtain ⟨L2, hL2⟩ : ∃ L, X[i2].xs.drop k2 = L := ⟨_, rfl⟩
  have hl1 : L1.length = k1 := by rw [← hL1, List.length_take]; omega
  rw [hL1] at hA1 H1
  rw [hL2] at hA2 H2
  obtain ⟨m1, hm1⟩ : ∃ m, X[i1].xs.length = m := ⟨_, rfl⟩
  obtain ⟨m2, hm2⟩ : ∃ m, X[i2].xs.length = m := ⟨_, rfl⟩
  have hl2 : L2.length = m2 - k2 := by rw [← hL2, List.length_drop, hm2]
  have hv1 : X[i1].v = .slice (some ⟨X[i1].g, X[i1].o, none⟩) m1 X[i1].c := by rw [← hm1]; rfl
  have hv2 : X[i2].v = .slice (some ⟨X[i2].g, X[i2].o, none⟩) m2 X[i2].c := by rw [← hm2]; rfl
  rw [hv1] at c1
  rw [hv2] at c2
  rw [hm2] at hA2
  have hs1 := fun u => run_slH (T := 23) (by kernel_rfl) efsT X[i1].g X[i1].o m1 X[i1].c k1 (by omega) u
  have hs2 := fun u => run_slG (T := 23) (by kernel_rfl) efsT (some ⟨X[i2].g, X[i2].o, none⟩) m2 X[i2].c k2 (by omega) u
  have hm1T : m1 ≤ (cat X).length := (by
    have h := congrArg List.length (cat_split X i1 hi1)
    simp only [List.length_append] at h
    omega)
  have hm2T : m2 ≤ (cat X).length := (by
    have h := congrArg List.length (cat_split X i2 hi2)
    simp only [List.length_append] at h
    omega)
  obtain ⟨n2, hn2⟩ : ∃ n, m2 - k2 = n := ⟨_, rfl⟩
  rw [hn2] at hA2 hl2 hs2
  obtain ⟨N1, hN1⟩ : ∃ n, k1 + P.length + n2 = n := ⟨_, rfl⟩
  have hN1b : N1 ≤ 1099511627776 := by omega
  have hj := joinedT_f _ _ _ k1 P.length n2 (scells L1) (scells P) (scells L2) w.drew hA1 hP hA2 (by show _ = _; rw [scells_length]; exact hl1) (by show _ = _; rw [scells_length]) (by show _ = _; rw [scells_length]; exact hl2) (scells_one _) (scells_one _) (scells_one _) N1 hN1 (by omega)
  have d2 := hE.cells.2.2.1
  obtain ⟨vd, hvd⟩ : ∃ v, slG (some ⟨X[i2].g, X[i2].o, none⟩) X[i2].c k2 = v := ⟨_, rfl⟩
  rw [hvd] at hj hs2
  clear hvd hA1 hA2 hcl hv1 hv2
  have hHB1 : ∀ w', Below w.heap.size w w' → Hid (Eb w' g vs (.slice (some ⟨o, 0, none⟩) X.length c) p (cat X).length cur en ∧ Bks w' N (.slice (some ⟨o, 0, none⟩) X.length c) X) := fun w' hq => ⟨hE.low hq, hk.low hq⟩
  have HMX : Hid (X[i1].xs.length = m1 ∧ X[i2].xs.length = m2 ∧ L1.length = k1 ∧ L2.length = n2 ∧ m2 - k2 = n2) := ⟨hm1, hm2, hl1, hl2, hn2⟩
  have HNX : Hid (k1 + P.length + n2 = N1) := hN1
  generalize X[i1].g = g1 at *
  generalize X[i1].o = o1 at *
  generalize X[i1].c = cc1 at *
  generalize X[i2].g = g2 at *
  generalize X[i2].o = o2 at *
  generalize X[i2].c = cc2 at *
  have hkw := hk
  clear hm1 hm2 hl1 hl2 hn2 hN1 hE hk hB1 hB2
  have q1 : (0 : Int) ≤ (i1 : Int) := by omega
  have q2 : (i1 : Int) < (X.length : Int) := by omega
  have q3 : (0 : Int) ≤ (i2 : Int) := by omega
  have q4 : (i2 : Int) < (X.length : Int) := by omega
  have e2 : w.drew.cell? ⟨g, 2, none⟩ = some (.slice (some ⟨o, 0, none⟩) X.length c) := d2
  have e3 : w.drew.cell? ⟨o, i1, none⟩ = _ := c1
  have e4 : w.drew.cell? ⟨o, i2, none⟩ = _ := c2
  have hbD : Below w.heap.size w w.drew := (Below.refl _ w).drew
  have hj2 : Calls Tryz.prog 118 #[.slice (some ⟨g1, o1, none⟩) k1 cc1, .slice po P.length pc, .slice vd n2 (cc2 - k2)] w.drew fun e w' => e = .returned (.slice (some ⟨w.heap.size, 0, none⟩) N1 N1) ∧ w'.cell? ⟨g, 2, none⟩ = some (.slice (some ⟨o, 0, none⟩) X.length c) ∧ w'.cell? ⟨o, i1, none⟩ = some (.slice (some ⟨g1, o1, none⟩) m1 cc1) ∧ w'.cell? ⟨o, i2, none⟩ = some (.slice (some ⟨g2, o2, none⟩) m2 cc2) ∧ Below w.heap.size w w' ∧ Hid (w'.heap[w.heap.size]? = some (.cells (scells L1 ++ (scells P ++ scells L2)).toArray 9 (0, 0))) := (by
    refine hj.mono ?_
    rintro e w' ⟨rfl, h1, h2⟩
    have h3 : Below w.heap.size w w' := hbD.trans h2
    refine ⟨rfl, ?_, ?_, ?_, h3, h1⟩
    · rw [World.cell?_of_block (w := w) (h3.block _ (World.block_lt_of_cell? w _ d2))]; exact d2
    · rw [World.cell?_of_block (w := w) (h3.block _ (World.block_lt_of_cell? w _ c1))]; exact c1
    · rw [World.cell?_of_block (w := w) (h3.block _ (World.block_lt_of_cell? w _ c2))]; exact c2)
  clear hj
  go_wp2_with fail
  go_region_held3 (fun w' => w'.cell? ⟨g, 2, none⟩ = some (.slice (some ⟨o, 0, none⟩) X.length c) ∧ w'.cell? ⟨o, i1, none⟩ = some (.slice (some ⟨g1, o1, none⟩) m1 cc1) ∧ w'.cell? ⟨o, i2, none⟩ = some (.slice (some ⟨g2, o2, none⟩) m2 cc2) ∧ Below w.heap.size w w') (go_keep)
    (first | (go_at_call 118; refine hj2.mono ?_; rintro e w1 ⟨rfl, y1, y2, y3, hbw1, HG⟩))
  clear e2 e3 e4 hbD hj2 y1 y2 y3 c1 c2 d2 hs1 hs2
  have hHB := (hHB1 w1 hbw1).out
  obtain ⟨hE1, hk1⟩ := hHB
  clear hHB1
  have HCat : Hid (scells L1 ++ (scells P ++ scells L2) = scells (L1 ++ (P ++ L2))) := (by show _ = _; rw [scells_append, scells_append])
  have hnb : HB w1 N ⟨w.heap.size, 0, N1, L1 ++ (P ++ L2)⟩ := (by
    refine HB.new hwN ?_ ?_
    · have h := HMX.out
      have h2 := HNX.out
      simp only [List.length_append]
      omega
    · have h := HG.out
      rw [HCat.out] at h
      exact h)
  have hnl : (L1 ++ (P ++ L2)).length = N1 := (by
    have h := HMX.out
    have h2 := HNX.out
    simp only [List.length_append]
    omega)
  have hcu := cut_f ⟨w.heap.size, 0, N1, L1 ++ (P ++ L2)⟩ N w1.drew (hnb.low (Below.refl _ w1).drew) (by dsimp only; omega) (Nat.le_trans hwN hbw1.size)
  have hcv : (⟨w.heap.size, 0, N1, L1 ++ (P ++ L2)⟩ : Bck).v = .slice (some ⟨w.heap.size, 0, none⟩) N1 N1 := (by unfold Bck.v; dsimp only; rw [hnl])
  rw [hcv] at hcu
  have hsL := fun u => run_slH (T := 75) (by kernel_rfl) efsL o 0 X.length c i1 (by omega) u
  have hsR := fun u => run_slG (T := 75) (by kernel_rfl) efsL (some ⟨o, 0, none⟩) X.length c (i2 + 1) (by omega) u
  rw [Int.natCast_add, Int.natCast_one] at hsR
  have hw1 : IntKind.i64.wrap ((i2 : Int) + 1) = (i2 : Int) + 1 := wrap_small _ (by omega) (by omega)
  obtain ⟨_, _, d2, _, _, _⟩ := hE1.cells
  have e2 : (w1.drewN 1).cell? ⟨g, 2, none⟩ = some (.slice (some ⟨o, 0, none⟩) X.length c) := d2
  obtain ⟨sr, hsr⟩ : ∃ v, slG (some ⟨o, 0, none⟩) c (i2 + 1) = v := ⟨_, rfl⟩
  rw [hsr] at hsR
  have hnG : ∀ x ∈ X, x.g ≠ w.heap.size := fun x hx => by
    have := (hkw.blk x hx).lt
    omega
  have hcu2 : Calls Tryz.prog 50 (#[.slice (some ⟨w.heap.size, 0, none⟩) N1 N1] ++ #[]) (w1.drewN 1) fun e w' => ∃ v, e = .returned v ∧ True ∧ (∃ (Y : List Bck) (yo yc : Nat), v = .slice (some ⟨yo, 0, none⟩) Y.length yc ∧ Bks w' N (.slice (some ⟨yo, 0, none⟩) Y.length yc) Y ∧ cat Y = L1 ++ (P ++ L2) ∧ (∀ y ∈ Y, y.g = w.heap.size) ∧ 512 * Y.length ≤ N1 + 512 ∧ Below w1.heap.size w1 w') := (by
    refine hcu.mono ?_
    rintro e w' ⟨v, Y, rfl, h1, h2, h3, h4, h5⟩
    obtain ⟨yo, yc, _, rfl, _⟩ := h1.row
    dsimp only at h2 h3 h4
    exact ⟨_, rfl, trivial, Y, yo, yc, rfl, h1, h2, h3, by omega, (Below.refl _ w1).drew.trans h5⟩)
  clear hcu
  go_wp2_with fail
  refine wp_region_noPanic ?_
  refine wp_region_held_drew (S := fun _ => True) (by kernel_rfl) trivial (fun _ => ?_)
  refine go_take 0 45 _ (.pointer (some ⟨g, 2, none⟩)) rfl (by kernel_rfl) (by kernel_rfl) (by kernel_rfl) (by kernel_rfl) (fun _ _ _ h => h) (Or.inl ⟨by kernel_rfl, fun u _ => by kernel_rfl⟩) trivial ?_
  simp only [Act.put, List.setIfInBounds_toArray, List.set_cons_zero, List.set_cons_succ]
  refine go_take 1 46 _ (.pointer (some ⟨g, 2, none⟩)) rfl (by kernel_rfl) (by kernel_rfl) (by kernel_rfl) (by kernel_rfl) (fun _ _ _ h => h) (Or.inl ⟨by kernel_rfl, fun u _ => by kernel_rfl⟩) trivial ?_
  simp only [Act.put, List.setIfInBounds_toArray, List.set_cons_zero, List.set_cons_succ]
  refine go_take 2 47 _ (.pointer (some ⟨g, 2, none⟩)) rfl (by kernel_rfl) (by kernel_rfl) (by kernel_rfl) (by kernel_rfl) (fun _ _ _ h => h) (Or.inl ⟨by kernel_rfl, fun u _ => by kernel_rfl⟩) trivial ?_
  simp only [Act.put, List.setIfInBounds_toArray, List.set_cons_zero, List.set_cons_succ]
  refine go_take 3 48 _ (.pointer (some ⟨g, 2, none⟩)) rfl (by kernel_rfl) (by kernel_rfl) (by kernel_rfl) (by kernel_rfl) (fun _ _ _ h => h) (Or.inl ⟨by kernel_rfl, fun u _ => by kernel_rfl⟩) trivial ?_
  simp only [Act.put, List.setIfInBounds_toArray, List.set_cons_zero, List.set_cons_succ]
  refine go_take 5 50 _ (.int .i64 (i1 : Int)) rfl (by kernel_rfl) (by kernel_rfl) (by kernel_rfl) (by kernel_rfl) (fun _ _ _ h => h) (Or.inl ⟨by kernel_rfl, fun u _ => by kernel_rfl⟩) trivial ?_
  simp only [Act.put, List.setIfInBounds_toArray, List.set_cons_zero, List.set_cons_succ]
  refine go_take 7 52 _ (.slice (some ⟨w.heap.size, 0, none⟩) N1 N1) rfl (by kernel_rfl) (by kernel_rfl) (by kernel_rfl) (by kernel_rfl) (fun _ _ _ h => h) (Or.inl ⟨by kernel_rfl, fun u _ => by kernel_rfl⟩) trivial ?_
  simp only [Act.put, List.setIfInBounds_toArray, List.set_cons_zero, List.set_cons_succ]
  refine go_take 9 54 _ (.pointer (some ⟨g, 2, none⟩)) rfl (by kernel_rfl) (by kernel_rfl) (by kernel_rfl) (by kernel_rfl) (fun _ _ _ h => h) (Or.inl ⟨by kernel_rfl, fun u _ => by kernel_rfl⟩) trivial ?_
  simp only [Act.put, List.setIfInBounds_toArray, List.set_cons_zero, List.set_cons_succ]
  refine go_take 10 55 _ (.pointer (some ⟨g, 2, none⟩)) rfl (by kernel_rfl) (by kernel_rfl) (by kernel_rfl) (by kernel_rfl) (fun _ _ _ h => h) (Or.inl ⟨by kernel_rfl, fun u _ => by kernel_rfl⟩) trivial ?_
  simp only [Act.put, List.setIfInBounds_toArray, List.set_cons_zero, List.set_cons_succ]
  refine go_take 11 56 _ (.pointer (some ⟨g, 2, none⟩)) rfl (by kernel_rfl) (by kernel_rfl) (by kernel_rfl) (by kernel_rfl) (fun _ _ _ h => h) (Or.inl ⟨by kernel_rfl, fun u _ => by kernel_rfl⟩) trivial ?_
  simp only [Act.put, List.setIfInBounds_toArray, List.set_cons_zero, List.set_cons_succ]
  refine go_take 13 58 _ (.int .i64 (i2 : Int)) rfl (by kernel_rfl) (by kernel_rfl) (by kernel_rfl) (by kernel_rfl) (fun _ _ _ h => h) (Or.inl ⟨by kernel_rfl, fun u _ => by kernel_rfl⟩) trivial ?_
  simp only [Act.put, List.setIfInBounds_toArray, List.set_cons_zero, List.set_cons_succ]
  refine go_take 14 59 _ (.int .i64 ((i2 : Int) + 1)) rfl (by kernel_rfl) (by kernel_rfl) (by kernel_rfl) (by kernel_rfl) (fun _ _ _ h => h) (Or.inl ⟨by kernel_rfl, fun u _ => ef_add hw1 (.tmp 58) (.const (.int .i64 1)) (by kernel_rfl) (by kernel_rfl) (by kernel_rfl)⟩) trivial ?_
  simp only [Act.put, List.setIfInBounds_toArray, List.set_cons_zero, List.set_cons_succ]
  refine ef_call [4, 8, 12] (by kernel_rfl) (by decide) 8 53 _ rfl (by kernel_rfl) (by kernel_rfl) 50 (.func 50) #[.tmp 52] #[23] (by kernel_rfl) #[] (by kernel_rfl) #[.slice (some ⟨w.heap.size, 0, none⟩) N1 N1] (by kernel_rfl) (enters_of Tryz.func50 (by kernel_rfl) rfl) _ hcu2 ?_ 4 49 _ rfl (by kernel_rfl) (by kernel_rfl) (.slice (some ⟨o, 0, none⟩) X.length c) (ef_load e2 (.tmp 48) (by kernel_rfl) (by kernel_rfl)) trivial ?_ 12 57 _ rfl (by kernel_rfl) (by kernel_rfl) (.slice (some ⟨o, 0, none⟩) X.length c) (ef_load e2 (.tmp 56) (by kernel_rfl) (by kernel_rfl)) ?_ (.inr (.inr rfl))
  · rintro _ w2 _ ⟨Y, yo, yc, rfl, hkY, HcY, hYg, hYl, hb12⟩
    simp only [Act.put, List.setIfInBounds_toArray, List.set_cons_zero, List.set_cons_succ]
    refine ef_two 4 49 _ 12 57 _ rfl (by kernel_rfl) rfl (by kernel_rfl) (by kernel_rfl) (by kernel_rfl) (by kernel_rfl) (.slice (some ⟨o, 0, none⟩) X.length c) _ (ef_load ((hE1.low hb12).cells.2.2.1) (.tmp 48) (by kernel_rfl) (by kernel_rfl)) trivial (.slice (some ⟨o, 0, none⟩) X.length c) _ (ef_load ((hE1.low hb12).cells.2.2.1) (.tmp 56) (by kernel_rfl) (by kernel_rfl)) trivial ?_ ?_
    · simp only [Act.put, List.setIfInBounds_toArray, List.set_cons_zero, List.set_cons_succ]
      refine go_take 6 51 _ (.slice (some ⟨o, 0, none⟩) i1 c) rfl (by kernel_rfl) (by kernel_rfl) (by kernel_rfl) (by kernel_rfl) (fun _ _ _ h => h) (Or.inl ⟨by kernel_rfl, fun u _ => ef_slH (hsL u) ⟨_, _, _, rfl⟩ (.tmp 49) (.tmp 50) (by kernel_rfl) (by kernel_rfl) (by kernel_rfl)⟩) trivial ?_
      simp only [Act.put, List.setIfInBounds_toArray, List.set_cons_zero, List.set_cons_succ]
      refine go_val 12 57 _ rfl (by kernel_rfl) (by kernel_rfl) (by kernel_rfl) (.slice (some ⟨o, 0, none⟩) X.length c) _ (ef_load ((hE1.low hb12).cells.2.2.1) (.tmp 56) (by kernel_rfl) (by kernel_rfl)) trivial ?_
      simp only [Act.put, List.setIfInBounds_toArray, List.set_cons_zero, List.set_cons_succ]
      refine go_take 15 60 _ (.slice sr (X.length - (i2 + 1)) (c - (i2 + 1))) rfl (by kernel_rfl) (by kernel_rfl) (by kernel_rfl) (by kernel_rfl) (fun _ _ _ h => h) (Or.inl ⟨by kernel_rfl, fun u _ => ef_slL (hsR u) ⟨_, _, _, rfl⟩ (.tmp 57) (.tmp 59) (by kernel_rfl) (by kernel_rfl) (by kernel_rfl)⟩) trivial ?_
      simp only [Act.put, List.setIfInBounds_toArray, List.set_cons_zero, List.set_cons_succ]
      have hE2 := hE1.low hb12
      have hk2 := hk1.low hb12
      have hh1 := holds_take hk2.holds (by simp) (Nat.le_of_lt hi1) ⟨o, rfl⟩
      have hh3 := holds_drop hk2.holds (by simp) (by omega : i2 + 1 ≤ X.length) ⟨o, rfl⟩
      rw [hsr] at hh3
      obtain ⟨N2, hN2⟩ : ∃ n, i1 + Y.length + (X.length - (i2 + 1)) = n := ⟨_, rfl⟩
      have HY : Hid (512 * Y.length ≤ N1 + 512 ∧ cat Y = L1 ++ (P ++ L2)) := ⟨hYl, HcY⟩
      have hN2b : N2 ≤ 1099511627776 := by have := HY.out.1; omega
      have hjl := joinedL_f _ _ _ i1 Y.length (X.length - (i2 + 1)) _ _ _ w2 hh1 hkY.holds hh3 (by show _ = _; rw [List.length_take, List.length_map]; omega) (by show _ = _; rw [List.length_map]) (by show _ = _; rw [List.length_drop, List.length_map]) (fun u hu => bkv_one X u (List.mem_of_mem_take hu)) (bkv_one Y) (fun u hu => bkv_one X u (List.mem_of_mem_drop hu)) N2 hN2 hN2b
      have hjl2 : Calls Tryz.prog 119 (#[.slice (some ⟨o, 0, none⟩) i1 c, .slice (some ⟨yo, 0, none⟩) Y.length yc, .slice sr (X.length - (i2 + 1)) (c - (i2 + 1))] ++ #[]) w2 fun e w' => ∃ v, e = .returned v ∧ True ∧ (v = .slice (some ⟨w2.heap.size, 0, none⟩) N2 N2 ∧ w'.heap[w2.heap.size]? = some (.cells ((X.map Bck.v).take i1 ++ (Y.map Bck.v ++ (X.map Bck.v).drop (i2 + 1))).toArray 23 (0, 0)) ∧ Below w2.heap.size w2 w') := hjl.mono fun e w' h => ⟨_, h.1, trivial, rfl, h.2.1, h.2.2⟩
      clear hjl hh1 hh3
      refine go_callE 16 61 _ rfl (by kernel_rfl) (by kernel_rfl) (by kernel_rfl) 119 (.func 119) #[.tmp 51, .tmp 53, .tmp 60] #[75, 75, 75] (by kernel_rfl) #[] (by kernel_rfl) #[.slice (some ⟨o, 0, none⟩) i1 c, .slice (some ⟨yo, 0, none⟩) Y.length yc, .slice sr (X.length - (i2 + 1)) (c - (i2 + 1))] (by kernel_rfl) (enters_of Tryz.func119 (by kernel_rfl) rfl) _ hjl2 ?_
      rintro _ w3 _ ⟨rfl, hh3, hb23⟩
      simp only [Act.put, List.setIfInBounds_toArray, List.set_cons_zero, List.set_cons_succ]
      refine go_take 17 62 _ (.pointer (some ⟨g, 2, none⟩)) rfl (by kernel_rfl) (by kernel_rfl) (by kernel_rfl) (by kernel_rfl) (fun _ _ _ h => h) (Or.inl ⟨by kernel_rfl, fun u _ => by kernel_rfl⟩) trivial ?_
      simp only [Act.put, List.setIfInBounds_toArray, List.set_cons_zero, List.set_cons_succ]
      refine go_take 18 63 _ (.pointer (some ⟨g, 2, none⟩)) rfl (by kernel_rfl) (by kernel_rfl) (by kernel_rfl) (by kernel_rfl) (fun _ _ _ h => h) (Or.inl ⟨by kernel_rfl, fun u _ => by kernel_rfl⟩) trivial ?_
      simp only [Act.put, List.setIfInBounds_toArray, List.set_cons_zero, List.set_cons_succ]
      have hE3 := hE2.low hb23
      obtain ⟨hE4, hk4⟩ := rep_fin hE2 hk2 hkY hYg hnG hio hi2 (Nat.le_trans hwN (Nat.le_trans hbw1.size hb12.size)) hN2 hh3 hb23
      have HL4 : Hid (Bt g w (w3.setCell ⟨g, 2, none⟩ (.slice (some ⟨w2.heap.size, 0, none⟩) N2 N2))) := Bt.set (((Bt.of hbw1).trans (Bt.of hb12)).trans (Bt.of hb23)) 2 _
      refine go_skip 19 _ rfl (by kernel_rfl) (by kernel_rfl) (by kernel_rfl) (w3.setCell ⟨g, 2, none⟩ (.slice (some ⟨w2.heap.size, 0, none⟩) N2 N2)) (ef_store hE3.cells.2.2.1 (hE3.frozen 2) (.tmp 63) (.tmp 61) (by kernel_rfl) (by kernel_rfl) (by kernel_rfl)) trivial ?_
      refine wpAnyH_done (by kernel_rfl) ?_ _
      refine NoPanic.normal ?_
      generalize w3.setCell ⟨g, 2, none⟩ (.slice (some ⟨w2.heap.size, 0, none⟩) N2 N2) = w4 at hE4 hk4 HL4 ⊢
      have HK4 : Hid (Eb w4 g vs (.slice (some ⟨w2.heap.size, 0, none⟩) N2 N2) p (cat X).length cur en ∧ Bks w4 N (.slice (some ⟨w2.heap.size, 0, none⟩) N2 N2) (X.take i1 ++ (Y ++ X.drop (i2 + 1)))) := ⟨hE4, hk4⟩
      obtain ⟨_, _, z2, z3, _, _⟩ := hE4.cells
      have zf3 := hE4.frozen 3
      have HCAT : Hid (cat (X.take i1 ++ (Y ++ X.drop (i2 + 1))) = putE (cat X) a b P) := (by
        show _ = _
        unfold putE
        rw [cat_append, cat_append, HY.out.2, H1.out, H2.out]
        simp)
      have HLEN : Hid (((cat X).length : Int) + ((P.length : Int) - ((b : Int) - (a : Int))) = ((putE (cat X) a b P).length : Int)) := (by
        show _ = _
        unfold putE
        simp only [List.length_append, List.length_take, List.length_drop]
        omega)
      have HB512 : Hid (512 * (X.take i1 ++ (Y ++ X.drop (i2 + 1))).length ≤ 512 * X.length + (cat X).length + P.length) := (by
        show _ ≤ _
        have h1 := HY.out.1
        have h2 := HNX.out
        have h3 := HMX.out
        have h4 := congrArg List.length HCAT.out
        have h5 := HLEN.out
        have h6 : N1 ≤ (cat X).length + P.length := (by
          have h7 := congrArg List.length HY.out.2
          have h8 := congrArg List.length H1.out
          have h9 := congrArg List.length H2.out
          simp only [List.length_append, List.length_take, List.length_drop] at h8 h9
          omega)
        simp only [List.length_append, List.length_take, List.length_drop]
        omega)
      clear hE4 hk4 hh3 hb23 hE3 hE2 hk2 hkY hb12 hYg hYl hjl2
      obtain ⟨tl, htl⟩ : ∃ tl, (cat X).length = tl := ⟨_, rfl⟩
      rw [htl] at z3 HLEN hT hb
      have HTL : Hid ((cat X).length = tl) := htl
      clear htl
      go_wp2
      first
        | go_end0
        | refine bodyPost_ret (results_none rfl _ _ _) rfl ?_
        | refine bodyPost_end (results_none rfl _ _ _) rfl ?_
      refine ⟨rfl, _, _, ?_, HK4.out.1.bks HK4.out.2 3 _, HCAT.out, HB512.out, HL4.out.set 3 _⟩
      rw [HCAT.out, ← HLEN.out]
      exact HK4.out.1.setC _
    · simp only [Act.put, List.setIfInBounds_toArray, List.set_cons_zero, List.set_cons_succ]
      refine go_take 15 60 _ (.slice sr (X.length - (i2 + 1)) (c - (i2 + 1))) rfl (by kernel_rfl) (by kernel_rfl) (by kernel_rfl) (by kernel_rfl) (fun _ _ _ h => h) (Or.inl ⟨by kernel_rfl, fun u _ => ef_slL (hsR u) ⟨_, _, _, rfl⟩ (.tmp 57) (.tmp 59) (by kernel_rfl) (by kernel_rfl) (by kernel_rfl)⟩) trivial ?_
      simp only [Act.put, List.setIfInBounds_toArray, List.set_cons_zero, List.set_cons_succ]
      refine go_val 4 49 _ rfl (by kernel_rfl) (by kernel_rfl) (by kernel_rfl) (.slice (some ⟨o, 0, none⟩) X.length c) _ (ef_load ((hE1.low hb12).cells.2.2.1) (.tmp 48) (by kernel_rfl) (by kernel_rfl)) trivial ?_
      simp only [Act.put, List.setIfInBounds_toArray, List.set_cons_zero, List.set_cons_succ]
      refine go_take 6 51 _ (.slice (some ⟨o, 0, none⟩) i1 c) rfl (by kernel_rfl) (by kernel_rfl) (by kernel_rfl) (by kernel_rfl) (fun _ _ _ h => h) (Or.inl ⟨by kernel_rfl, fun u _ => ef_slH (hsL u) ⟨_, _, _, rfl⟩ (.tmp 49) (.tmp 50) (by kernel_rfl) (by kernel_rfl) (by kernel_rfl)⟩) trivial ?_
      simp only [Act.put, List.setIfInBounds_toArray, List.set_cons_zero, List.set_cons_succ]
      have hE2 := hE1.low hb12
      have hk2 := hk1.low hb12
      have hh1 := holds_take hk2.holds (by simp) (Nat.le_of_lt hi1) ⟨o, rfl⟩
      have hh3 := holds_drop hk2.holds (by simp) (by omega : i2 + 1 ≤ X.length) ⟨o, rfl⟩
      rw [hsr] at hh3
      obtain ⟨N2, hN2⟩ : ∃ n, i1 + Y.length + (X.length - (i2 + 1)) = n := ⟨_, rfl⟩
      have HY : Hid (512 * Y.length ≤ N1 + 512 ∧ cat Y = L1 ++ (P ++ L2)) := ⟨hYl, HcY⟩
      have hN2b : N2 ≤ 1099511627776 := by have := HY.out.1; omega
      have hjl := joinedL_f _ _ _ i1 Y.length (X.length - (i2 + 1)) _ _ _ w2 hh1 hkY.holds hh3 (by show _ = _; rw [List.length_take, List.length_map]; omega) (by show _ = _; rw [List.length_map]) (by show _ = _; rw [List.length_drop, List.length_map]) (fun u hu => bkv_one X u (List.mem_of_mem_take hu)) (bkv_one Y) (fun u hu => bkv_one X u (List.mem_of_mem_drop hu)) N2 hN2 hN2b
      have hjl2 : Calls Tryz.prog 119 (#[.slice (some ⟨o, 0, none⟩) i1 c, .slice (some ⟨yo, 0, none⟩) Y.length yc, .slice sr (X.length - (i2 + 1)) (c - (i2 + 1))] ++ #[]) w2 fun e w' => ∃ v, e = .returned v ∧ True ∧ (v = .slice (some ⟨w2.heap.size, 0, none⟩) N2 N2 ∧ w'.heap[w2.heap.size]? = some (.cells ((X.map Bck.v).take i1 ++ (Y.map Bck.v ++ (X.map Bck.v).drop (i2 + 1))).toArray 23 (0, 0)) ∧ Below w2.heap.size w2 w') := hjl.mono fun e w' h => ⟨_, h.1, trivial, rfl, h.2.1, h.2.2⟩
      clear hjl hh1 hh3
      refine go_callE 16 61 _ rfl (by kernel_rfl) (by kernel_rfl) (by kernel_rfl) 119 (.func 119) #[.tmp 51, .tmp 53, .tmp 60] #[75, 75, 75] (by kernel_rfl) #[] (by kernel_rfl) #[.slice (some ⟨o, 0, none⟩) i1 c, .slice (some ⟨yo, 0, none⟩) Y.length yc, .slice sr (X.length - (i2 + 1)) (c - (i2 + 1))] (by kernel_rfl) (enters_of Tryz.func119 (by kernel_rfl) rfl) _ hjl2 ?_
      rintro _ w3 _ ⟨rfl, hh3, hb23⟩
      simp only [Act.put, List.setIfInBounds_toArray, List.set_cons_zero, List.set_cons_succ]
      refine go_take 17 62 _ (.pointer (some ⟨g, 2, none⟩)) rfl (by kernel_rfl) (by kernel_rfl) (by kernel_rfl) (by kernel_rfl) (fun _ _ _ h => h) (Or.inl ⟨by kernel_rfl, fun u _ => by kernel_rfl⟩) trivial ?_
      simp only [Act.put, List.setIfInBounds_toArray, List.set_cons_zero, List.set_cons_succ]
      refine go_take 18 63 _ (.pointer (some ⟨g, 2, none⟩)) rfl (by kernel_rfl) (by kernel_rfl) (by kernel_rfl) (by kernel_rfl) (fun _ _ _ h => h) (Or.inl ⟨by kernel_rfl, fun u _ => by kernel_rfl⟩) trivial ?_
      simp only [Act.put, List.setIfInBounds_toArray, List.set_cons_zero, List.set_cons_succ]
      have hE3 := hE2.low hb23
      obtain ⟨hE4, hk4⟩ := rep_fin hE2 hk2 hkY hYg hnG hio hi2 (Nat.le_trans hwN (Nat.le_trans hbw1.size hb12.size)) hN2 hh3 hb23
      have HL4 : Hid (Bt g w (w3.setCell ⟨g, 2, none⟩ (.slice (some ⟨w2.heap.size, 0, none⟩) N2 N2))) := Bt.set (((Bt.of hbw1).trans (Bt.of hb12)).trans (Bt.of hb23)) 2 _
      refine go_skip 19 _ rfl (by kernel_rfl) (by kernel_rfl) (by kernel_rfl) (w3.setCell ⟨g, 2, none⟩ (.slice (some ⟨w2.heap.size, 0, none⟩) N2 N2)) (ef_store hE3.cells.2.2.1 (hE3.frozen 2) (.tmp 63) (.tmp 61) (by kernel_rfl) (by kernel_rfl) (by kernel_rfl)) trivial ?_
      refine wpAnyH_done (by kernel_rfl) ?_ _
      refine NoPanic.normal ?_
      generalize w3.setCell ⟨g, 2, none⟩ (.slice (some ⟨w2.heap.size, 0, none⟩) N2 N2) = w4 at hE4 hk4 HL4 ⊢
      have HK4 : Hid (Eb w4 g vs (.slice (some ⟨w2.heap.size, 0, none⟩) N2 N2) p (cat X).length cur en ∧ Bks w4 N (.slice (some ⟨w2.heap.size, 0, none⟩) N2 N2) (X.take i1 ++ (Y ++ X.drop (i2 + 1)))) := ⟨hE4, hk4⟩
      obtain ⟨_, _, z2, z3, _, _⟩ := hE4.cells
      have zf3 := hE4.frozen 3
      have HCAT : Hid (cat (X.take i1 ++ (Y ++ X.drop (i2 + 1))) = putE (cat X) a b P) := (by
        show _ = _
        unfold putE
        rw [cat_append, cat_append, HY.out.2, H1.out, H2.out]
        simp)
      have HLEN : Hid (((cat X).length : Int) + ((P.length : Int) - ((b : Int) - (a : Int))) = ((putE (cat X) a b P).length : Int)) := (by
        show _ = _
        unfold putE
        simp only [List.length_append, List.length_take, List.length_drop]
        omega)
      have HB512 : Hid (512 * (X.take i1 ++ (Y ++ X.drop (i2 + 1))).length ≤ 512 * X.length + (cat X).length + P.length) := (by
        show _ ≤ _
        have h1 := HY.out.1
        have h2 := HNX.out
        have h3 := HMX.out
        have h4 := congrArg List.length HCAT.out
        have h5 := HLEN.out
        have h6 : N1 ≤ (cat X).length + P.length := (by
          have h7 := congrArg List.length HY.out.2
          have h8 := congrArg List.length H1.out
          have h9 := congrArg List.length H2.out
          simp only [List.length_append, List.length_take, List.length_drop] at h8 h9
          omega)
        simp only [List.length_append, List.length_take, List.length_drop]
        omega)
      clear hE4 hk4 hh3 hb23 hE3 hE2 hk2 hkY hb12 hYg hYl hjl2
      obtain ⟨tl, htl⟩ : ∃ tl, (cat X).length = tl := ⟨_, rfl⟩
      rw [htl] at z3 HLEN hT hb
      have HTL : Hid ((cat X).length = tl) := htl
      clear htl
      go_wp2
      first
        | go_end0
        | refine bodyPost_ret (results_none rfl _ _ _) rfl ?_
        | refine bodyPost_end (results_none rfl _ _ _) rfl ?_
      refine ⟨rfl, _, _, ?_, HK4.out.1.bks HK4.out.2 3 _, HCAT.out, HB512.out, HL4.out.set 3 _⟩
      rw [HCAT.out, ← HLEN.out]
      exact HK4.out.1.setC _
  · simp only [Act.put, List.setIfInBounds_toArray, List.set_cons_zero, List.set_cons_succ]
    refine go_take 6 51 _ (.slice (some ⟨o, 0, none⟩) i1 c) rfl (by kernel_rfl) (by kernel_rfl) (by kernel_rfl) (by kernel_rfl) (fun _ _ _ h => h) (Or.inl ⟨by kernel_rfl, fun u _ => ef_slH (hsL u) ⟨_, _, _, rfl⟩ (.tmp 49) (.tmp 50) (by kernel_rfl) (by kernel_rfl) (by kernel_rfl)⟩) trivial ?_
    simp only [Act.put, List.setIfInBounds_toArray, List.set_cons_zero, List.set_cons_succ]
    refine ef_call [8, 12] (by kernel_rfl) (by decide) 8 53 _ rfl (by kernel_rfl) (by kernel_rfl) 50 (.func 50) #[.tmp 52] #[23] (by kernel_rfl) #[] (by kernel_rfl) #[.slice (some ⟨w.heap.size, 0, none⟩) N1 N1] (by kernel_rfl) (enters_of Tryz.func50 (by kernel_rfl) rfl) _ hcu2 ?_ 12 57 _ rfl (by kernel_rfl) (by kernel_rfl) (.slice (some ⟨o, 0, none⟩) X.length c) (ef_load e2 (.tmp 56) (by kernel_rfl) (by kernel_rfl)) trivial ?_ 12 57 _ rfl (by kernel_rfl) (by kernel_rfl) (.slice (some ⟨o, 0, none⟩) X.length c) (ef_load e2 (.tmp 56) (by kernel_rfl) (by kernel_rfl)) ?_ (.inr (.inl rfl))
    · rintro _ w2 _ ⟨Y, yo, yc, rfl, hkY, HcY, hYg, hYl, hb12⟩
      simp only [Act.put, List.setIfInBounds_toArray, List.set_cons_zero, List.set_cons_succ]
      refine go_val 12 57 _ rfl (by kernel_rfl) (by kernel_rfl) (by kernel_rfl) (.slice (some ⟨o, 0, none⟩) X.length c) _ (ef_load ((hE1.low hb12).cells.2.2.1) (.tmp 56) (by kernel_rfl) (by kernel_rfl)) trivial ?_
      simp only [Act.put, List.setIfInBounds_toArray, List.set_cons_zero, List.set_cons_succ]
      refine go_take 15 60 _ (.slice sr (X.length - (i2 + 1)) (c - (i2 + 1))) rfl (by kernel_rfl) (by kernel_rfl) (by kernel_rfl) (by kernel_rfl) (fun _ _ _ h => h) (Or.inl ⟨by kernel_rfl, fun u _ => ef_slL (hsR u) ⟨_, _, _, rfl⟩ (.tmp 57) (.tmp 59) (by kernel_rfl) (by kernel_rfl) (by kernel_rfl)⟩) trivial ?_
      simp only [Act.put, List.setIfInBounds_toArray, List.set_cons_zero, List.set_cons_succ]
      have hE2 := hE1.low hb12
      have hk2 := hk1.low hb12
      have hh1 := holds_take hk2.holds (by simp) (Nat.le_of_lt hi1) ⟨o, rfl⟩
      have hh3 := holds_drop hk2.holds (by simp) (by omega : i2 + 1 ≤ X.length) ⟨o, rfl⟩
      rw [hsr] at hh3
      obtain ⟨N2, hN2⟩ : ∃ n, i1 + Y.length + (X.length - (i2 + 1)) = n := ⟨_, rfl⟩
      have HY : Hid (512 * Y.length ≤ N1 + 512 ∧ cat Y = L1 ++ (P ++ L2)) := ⟨hYl, HcY⟩
      have hN2b : N2 ≤ 1099511627776 := by have := HY.out.1; omega
      have hjl := joinedL_f _ _ _ i1 Y.length (X.length - (i2 + 1)) _ _ _ w2 hh1 hkY.holds hh3 (by show _ = _; rw [List.length_take, List.length_map]; omega) (by show _ = _; rw [List.length_map]) (by show _ = _; rw [List.length_drop, List.length_map]) (fun u hu => bkv_one X u (List.mem_of_mem_take hu)) (bkv_one Y) (fun u hu => bkv_one X u (List.mem_of_mem_drop hu)) N2 hN2 hN2b
      have hjl2 : Calls Tryz.prog 119 (#[.slice (some ⟨o, 0, none⟩) i1 c, .slice (some ⟨yo, 0, none⟩) Y.length yc, .slice sr (X.length - (i2 + 1)) (c - (i2 + 1))] ++ #[]) w2 fun e w' => ∃ v, e = .returned v ∧ True ∧ (v = .slice (some ⟨w2.heap.size, 0, none⟩) N2 N2 ∧ w'.heap[w2.heap.size]? = some (.cells ((X.map Bck.v).take i1 ++ (Y.map Bck.v ++ (X.map Bck.v).drop (i2 + 1))).toArray 23 (0, 0)) ∧ Below w2.heap.size w2 w') := hjl.mono fun e w' h => ⟨_, h.1, trivial, rfl, h.2.1, h.2.2⟩
      clear hjl hh1 hh3
      refine go_callE 16 61 _ rfl (by kernel_rfl) (by kernel_rfl) (by kernel_rfl) 119 (.func 119) #[.tmp 51, .tmp 53, .tmp 60] #[75, 75, 75] (by kernel_rfl) #[] (by kernel_rfl) #[.slice (some ⟨o, 0, none⟩) i1 c, .slice (some ⟨yo, 0, none⟩) Y.length yc, .slice sr (X.length - (i2 + 1)) (c - (i2 + 1))] (by kernel_rfl) (enters_of Tryz.func119 (by kernel_rfl) rfl) _ hjl2 ?_
      rintro _ w3 _ ⟨rfl, hh3, hb23⟩
      simp only [Act.put, List.setIfInBounds_toArray, List.set_cons_zero, List.set_cons_succ]
      refine go_take 17 62 _ (.pointer (some ⟨g, 2, none⟩)) rfl (by kernel_rfl) (by kernel_rfl) (by kernel_rfl) (by kernel_rfl) (fun _ _ _ h => h) (Or.inl ⟨by kernel_rfl, fun u _ => by kernel_rfl⟩) trivial ?_
      simp only [Act.put, List.setIfInBounds_toArray, List.set_cons_zero, List.set_cons_succ]
      refine go_take 18 63 _ (.pointer (some ⟨g, 2, none⟩)) rfl (by kernel_rfl) (by kernel_rfl) (by kernel_rfl) (by kernel_rfl) (fun _ _ _ h => h) (Or.inl ⟨by kernel_rfl, fun u _ => by kernel_rfl⟩) trivial ?_
      simp only [Act.put, List.setIfInBounds_toArray, List.set_cons_zero, List.set_cons_succ]
      have hE3 := hE2.low hb23
      obtain ⟨hE4, hk4⟩ := rep_fin hE2 hk2 hkY hYg hnG hio hi2 (Nat.le_trans hwN (Nat.le_trans hbw1.size hb12.size)) hN2 hh3 hb23
      have HL4 : Hid (Bt g w (w3.setCell ⟨g, 2, none⟩ (.slice (some ⟨w2.heap.size, 0, none⟩) N2 N2))) := Bt.set (((Bt.of hbw1).trans (Bt.of hb12)).trans (Bt.of hb23)) 2 _
      refine go_skip 19 _ rfl (by kernel_rfl) (by kernel_rfl) (by kernel_rfl) (w3.setCell ⟨g, 2, none⟩ (.slice (some ⟨w2.heap.size, 0, none⟩) N2 N2)) (ef_store hE3.cells.2.2.1 (hE3.frozen 2) (.tmp 63) (.tmp 61) (by kernel_rfl) (by kernel_rfl) (by kernel_rfl)) trivial ?_
      refine wpAnyH_done (by kernel_rfl) ?_ _
      refine NoPanic.normal ?_
      generalize w3.setCell ⟨g, 2, none⟩ (.slice (some ⟨w2.heap.size, 0, none⟩) N2 N2) = w4 at hE4 hk4 HL4 ⊢
      have HK4 : Hid (Eb w4 g vs (.slice (some ⟨w2.heap.size, 0, none⟩) N2 N2) p (cat X).length cur en ∧ Bks w4 N (.slice (some ⟨w2.heap.size, 0, none⟩) N2 N2) (X.take i1 ++ (Y ++ X.drop (i2 + 1)))) := ⟨hE4, hk4⟩
      obtain ⟨_, _, z2, z3, _, _⟩ := hE4.cells
      have zf3 := hE4.frozen 3
      have HCAT : Hid (cat (X.take i1 ++ (Y ++ X.drop (i2 + 1))) = putE (cat X) a b P) := (by
        show _ = _
        unfold putE
        rw [cat_append, cat_append, HY.out.2, H1.out, H2.out]
        simp)
      have HLEN : Hid (((cat X).length : Int) + ((P.length : Int) - ((b : Int) - (a : Int))) = ((putE (cat X) a b P).length : Int)) := (by
        show _ = _
        unfold putE
        simp only [List.length_append, List.length_take, List.length_drop]
        omega)
      have HB512 : Hid (512 * (X.take i1 ++ (Y ++ X.drop (i2 + 1))).length ≤ 512 * X.length + (cat X).length + P.length) := (by
        show _ ≤ _
        have h1 := HY.out.1
        have h2 := HNX.out
        have h3 := HMX.out
        have h4 := congrArg List.length HCAT.out
        have h5 := HLEN.out
        have h6 : N1 ≤ (cat X).length + P.length := (by
          have h7 := congrArg List.length HY.out.2
          have h8 := congrArg List.length H1.out
          have h9 := congrArg List.length H2.out
          simp only [List.length_append, List.length_take, List.length_drop] at h8 h9
          omega)
        simp only [List.length_append, List.length_take, List.length_drop]
        omega)
      clear hE4 hk4 hh3 hb23 hE3 hE2 hk2 hkY hb12 hYg hYl hjl2
      obtain ⟨tl, htl⟩ : ∃ tl, (cat X).length = tl := ⟨_, rfl⟩
      rw [htl] at z3 HLEN hT hb
      have HTL : Hid ((cat X).length = tl) := htl
      clear htl
      go_wp2
      first
        | go_end0
        | refine bodyPost_ret (results_none rfl _ _ _) rfl ?_
        | refine bodyPost_end (results_none rfl _ _ _) rfl ?_
      refine ⟨rfl, _, _, ?_, HK4.out.1.bks HK4.out.2 3 _, HCAT.out, HB512.out, HL4.out.set 3 _⟩
      rw [HCAT.out, ← HLEN.out]
      exact HK4.out.1.setC _
    · simp only [Act.put, List.setIfInBounds_toArray, List.set_cons_zero, List.set_cons_succ]
      refine go_take 15 60 _ (.slice sr (X.length - (i2 + 1)) (c - (i2 + 1))) rfl (by kernel_rfl) (by kernel_rfl) (by kernel_rfl) (by kernel_rfl) (fun _ _ _ h => h) (Or.inl ⟨by kernel_rfl, fun u _ => ef_slL (hsR u) ⟨_, _, _, rfl⟩ (.tmp 57) (.tmp 59) (by kernel_rfl) (by kernel_rfl) (by kernel_rfl)⟩) trivial ?_
      simp only [Act.put, List.setIfInBounds_toArray, List.set_cons_zero, List.set_cons_succ]
      refine go_callE 8 53 _ rfl (by kernel_rfl) (by kernel_rfl) (by kernel_rfl) 50 (.func 50) #[.tmp 52] #[23] (by kernel_rfl) #[] (by kernel_rfl) #[.slice (some ⟨w.heap.size, 0, none⟩) N1 N1] (by kernel_rfl) (enters_of Tryz.func50 (by kernel_rfl) rfl) _ hcu2 ?_
      rintro _ w2 _ ⟨Y, yo, yc, rfl, hkY, HcY, hYg, hYl, hb12⟩
      simp only [Act.put, List.setIfInBounds_toArray, List.set_cons_zero, List.set_cons_succ]
      have hE2 := hE1.low hb12
      have hk2 := hk1.low hb12
      have hh1 := holds_take hk2.holds (by simp) (Nat.le_of_lt hi1) ⟨o, rfl⟩
      have hh3 := holds_drop hk2.holds (by simp) (by omega : i2 + 1 ≤ X.length) ⟨o, rfl⟩
      rw [hsr] at hh3
      obtain ⟨N2, hN2⟩ : ∃ n, i1 + Y.length + (X.length - (i2 + 1)) = n := ⟨_, rfl⟩
      have HY : Hid (512 * Y.length ≤ N1 + 512 ∧ cat Y = L1 ++ (P ++ L2)) := ⟨hYl, HcY⟩
      have hN2b : N2 ≤ 1099511627776 := by have := HY.out.1; omega
      have hjl := joinedL_f _ _ _ i1 Y.length (X.length - (i2 + 1)) _ _ _ w2 hh1 hkY.holds hh3 (by show _ = _; rw [List.length_take, List.length_map]; omega) (by show _ = _; rw [List.length_map]) (by show _ = _; rw [List.length_drop, List.length_map]) (fun u hu => bkv_one X u (List.mem_of_mem_take hu)) (bkv_one Y) (fun u hu => bkv_one X u (List.mem_of_mem_drop hu)) N2 hN2 hN2b
      have hjl2 : Calls Tryz.prog 119 (#[.slice (some ⟨o, 0, none⟩) i1 c, .slice (some ⟨yo, 0, none⟩) Y.length yc, .slice sr (X.length - (i2 + 1)) (c - (i2 + 1))] ++ #[]) w2 fun e w' => ∃ v, e = .returned v ∧ True ∧ (v = .slice (some ⟨w2.heap.size, 0, none⟩) N2 N2 ∧ w'.heap[w2.heap.size]? = some (.cells ((X.map Bck.v).take i1 ++ (Y.map Bck.v ++ (X.map Bck.v).drop (i2 + 1))).toArray 23 (0, 0)) ∧ Below w2.heap.size w2 w') := hjl.mono fun e w' h => ⟨_, h.1, trivial, rfl, h.2.1, h.2.2⟩
      clear hjl hh1 hh3
      refine go_callE 16 61 _ rfl (by kernel_rfl) (by kernel_rfl) (by kernel_rfl) 119 (.func 119) #[.tmp 51, .tmp 53, .tmp 60] #[75, 75, 75] (by kernel_rfl) #[] (by kernel_rfl) #[.slice (some ⟨o, 0, none⟩) i1 c, .slice (some ⟨yo, 0, none⟩) Y.length yc, .slice sr (X.length - (i2 + 1)) (c - (i2 + 1))] (by kernel_rfl) (enters_of Tryz.func119 (by kernel_rfl) rfl) _ hjl2 ?_
      rintro _ w3 _ ⟨rfl, hh3, hb23⟩
      simp only [Act.put, List.setIfInBounds_toArray, List.set_cons_zero, List.set_cons_succ]
      refine go_take 17 62 _ (.pointer (some ⟨g, 2, none⟩)) rfl (by kernel_rfl) (by kernel_rfl) (by kernel_rfl) (by kernel_rfl) (fun _ _ _ h => h) (Or.inl ⟨by kernel_rfl, fun u _ => by kernel_rfl⟩) trivial ?_
      simp only [Act.put, List.setIfInBounds_toArray, List.set_cons_zero, List.set_cons_succ]
      refine go_take 18 63 _ (.pointer (some ⟨g, 2, none⟩)) rfl (by kernel_rfl) (by kernel_rfl) (by kernel_rfl) (by kernel_rfl) (fun _ _ _ h => h) (Or.inl ⟨by kernel_rfl, fun u _ => by kernel_rfl⟩) trivial ?_
      simp only [Act.put, List.setIfInBounds_toArray, List.set_cons_zero, List.set_cons_succ]
      have hE3 := hE2.low hb23
      obtain ⟨hE4, hk4⟩ := rep_fin hE2 hk2 hkY hYg hnG hio hi2 (Nat.le_trans hwN (Nat.le_trans hbw1.size hb12.size)) hN2 hh3 hb23
      have HL4 : Hid (Bt g w (w3.setCell ⟨g, 2, none⟩ (.slice (some ⟨w2.heap.size, 0, none⟩) N2 N2))) := Bt.set (((Bt.of hbw1).trans (Bt.of hb12)).trans (Bt.of hb23)) 2 _
      refine go_skip 19 _ rfl (by kernel_rfl) (by kernel_rfl) (by kernel_rfl) (w3.setCell ⟨g, 2, none⟩ (.slice (some ⟨w2.heap.size, 0, none⟩) N2 N2)) (ef_store hE3.cells.2.2.1 (hE3.frozen 2) (.tmp 63) (.tmp 61) (by kernel_rfl) (by kernel_rfl) (by kernel_rfl)) trivial ?_
      refine wpAnyH_done (by kernel_rfl) ?_ _
      refine NoPanic.normal ?_
      generalize w3.setCell ⟨g, 2, none⟩ (.slice (some ⟨w2.heap.size, 0, none⟩) N2 N2) = w4 at hE4 hk4 HL4 ⊢
      have HK4 : Hid (Eb w4 g vs (.slice (some ⟨w2.heap.size, 0, none⟩) N2 N2) p (cat X).length cur en ∧ Bks w4 N (.slice (some ⟨w2.heap.size, 0, none⟩) N2 N2) (X.take i1 ++ (Y ++ X.drop (i2 + 1)))) := ⟨hE4, hk4⟩
      obtain ⟨_, _, z2, z3, _, _⟩ := hE4.cells
      have zf3 := hE4.frozen 3
      have HCAT : Hid (cat (X.take i1 ++ (Y ++ X.drop (i2 + 1))) = putE (cat X) a b P) := (by
        show _ = _
        unfold putE
        rw [cat_append, cat_append, HY.out.2, H1.out, H2.out]
        simp)
      have HLEN : Hid (((cat X).length : Int) + ((P.length : Int) - ((b : Int) - (a : Int))) = ((putE (cat X) a b P).length : Int)) := (by
        show _ = _
        unfold putE
        simp only [List.length_append, List.length_take, List.length_drop]
        omega)
      have HB512 : Hid (512 * (X.take i1 ++ (Y ++ X.drop (i2 + 1))).length ≤ 512 * X.length + (cat X).length + P.length) := (by
        show _ ≤ _
        have h1 := HY.out.1
        have h2 := HNX.out
        have h3 := HMX.out
        have h4 := congrArg List.length HCAT.out
        have h5 := HLEN.out
        have h6 : N1 ≤ (cat X).length + P.length := (by
          have h7 := congrArg List.length HY.out.2
          have h8 := congrArg List.length H1.out
          have h9 := congrArg List.length H2.out
          simp only [List.length_append, List.length_take, List.length_drop] at h8 h9
          omega)
        simp only [List.length_append, List.length_take, List.length_drop]
        omega)
      clear hE4 hk4 hh3 hb23 hE3 hE2 hk2 hkY hb12 hYg hYl hjl2
      obtain ⟨tl, htl⟩ : ∃ tl, (cat X).length = tl := ⟨_, rfl⟩
      rw [htl] at z3 HLEN hT hb
      have HTL : Hid ((cat X).length = tl) := htl
      clear htl
      go_wp2
      first
        | go_end0
        | refine bodyPost_ret (results_none rfl _ _ _) rfl ?_
        | refine bodyPost_end (results_none rfl _ _ _) rfl ?_
      refine ⟨rfl, _, _, ?_, HK4.out.1.bks HK4.out.2 3 _, HCAT.out, HB512.out, HL4.out.set 3 _⟩
      rw [HCAT.out, ← HLEN.out]
      exact HK4.out.1.setC _
    · simp only [Act.put, List.setIfInBounds_toArray, List.set_cons_zero, List.set_cons_succ]
      refine go_take 15 60 _ (.slice sr (X.length - (i2 + 1)) (c - (i2 + 1))) rfl (by kernel_rfl) (by kernel_rfl) (by kernel_rfl) (by kernel_rfl) (fun _ _ _ h => h) (Or.inl ⟨by kernel_rfl, fun u _ => ef_slL (hsR u) ⟨_, _, _, rfl⟩ (.tmp 57) (.tmp 59) (by kernel_rfl) (by kernel_rfl) (by kernel_rfl)⟩) trivial ?_
      simp only [Act.put, List.setIfInBounds_toArray, List.set_cons_zero, List.set_cons_succ]
      refine go_callE 8 53 _ rfl (by kernel_rfl) (by kernel_rfl) (by kernel_rfl) 50 (.func 50) #[.tmp 52] #[23] (by kernel_rfl) #[] (by kernel_rfl) #[.slice (some ⟨w.heap.size, 0, none⟩) N1 N1] (by kernel_rfl) (enters_of Tryz.func50 (by kernel_rfl) rfl) _ hcu2 ?_
      rintro _ w2 _ ⟨Y, yo, yc, rfl, hkY, HcY, hYg, hYl, hb12⟩
      simp only [Act.put, List.setIfInBounds_toArray, List.set_cons_zero, List.set_cons_succ]
      have hE2 := hE1.low hb12
      have hk2 := hk1.low hb12
      have hh1 := holds_take hk2.holds (by simp) (Nat.le_of_lt hi1) ⟨o, rfl⟩
      have hh3 := holds_drop hk2.holds (by simp) (by omega : i2 + 1 ≤ X.length) ⟨o, rfl⟩
      rw [hsr] at hh3
      obtain ⟨N2, hN2⟩ : ∃ n, i1 + Y.length + (X.length - (i2 + 1)) = n := ⟨_, rfl⟩
      have HY : Hid (512 * Y.length ≤ N1 + 512 ∧ cat Y = L1 ++ (P ++ L2)) := ⟨hYl, HcY⟩
      have hN2b : N2 ≤ 1099511627776 := by have := HY.out.1; omega
      have hjl := joinedL_f _ _ _ i1 Y.length (X.length - (i2 + 1)) _ _ _ w2 hh1 hkY.holds hh3 (by show _ = _; rw [List.length_take, List.length_map]; omega) (by show _ = _; rw [List.length_map]) (by show _ = _; rw [List.length_drop, List.length_map]) (fun u hu => bkv_one X u (List.mem_of_mem_take hu)) (bkv_one Y) (fun u hu => bkv_one X u (List.mem_of_mem_drop hu)) N2 hN2 hN2b
      have hjl2 : Calls Tryz.prog 119 (#[.slice (some ⟨o, 0, none⟩) i1 c, .slice (some ⟨yo, 0, none⟩) Y.length yc, .slice sr (X.length - (i2 + 1)) (c - (i2 + 1))] ++ #[]) w2 fun e w' => ∃ v, e = .returned v ∧ True ∧ (v = .slice (some ⟨w2.heap.size, 0, none⟩) N2 N2 ∧ w'.heap[w2.heap.size]? = some (.cells ((X.map Bck.v).take i1 ++ (Y.map Bck.v ++ (X.map Bck.v).drop (i2 + 1))).toArray 23 (0, 0)) ∧ Below w2.heap.size w2 w') := hjl.mono fun e w' h => ⟨_, h.1, trivial, rfl, h.2.1, h.2.2⟩
      clear hjl hh1 hh3
      refine go_callE 16 61 _ rfl (by kernel_rfl) (by kernel_rfl) (by kernel_rfl) 119 (.func 119) #[.tmp 51, .tmp 53, .tmp 60] #[75, 75, 75] (by kernel_rfl) #[] (by kernel_rfl) #[.slice (some ⟨o, 0, none⟩) i1 c, .slice (some ⟨yo, 0, none⟩) Y.length yc, .slice sr (X.length - (i2 + 1)) (c - (i2 + 1))] (by kernel_rfl) (enters_of Tryz.func119 (by kernel_rfl) rfl) _ hjl2 ?_
      rintro _ w3 _ ⟨rfl, hh3, hb23⟩
      simp only [Act.put, List.setIfInBounds_toArray, List.set_cons_zero, List.set_cons_succ]
      refine go_take 17 62 _ (.pointer (some ⟨g, 2, none⟩)) rfl (by kernel_rfl) (by kernel_rfl) (by kernel_rfl) (by kernel_rfl) (fun _ _ _ h => h) (Or.inl ⟨by kernel_rfl, fun u _ => by kernel_rfl⟩) trivial ?_
      simp only [Act.put, List.setIfInBounds_toArray, List.set_cons_zero, List.set_cons_succ]
      refine go_take 18 63 _ (.pointer (some ⟨g, 2, none⟩)) rfl (by kernel_rfl) (by kernel_rfl) (by kernel_rfl) (by kernel_rfl) (fun _ _ _ h => h) (Or.inl ⟨by kernel_rfl, fun u _ => by kernel_rfl⟩) trivial ?_
      simp only [Act.put, List.setIfInBounds_toArray, List.set_cons_zero, List.set_cons_succ]
      have hE3 := hE2.low hb23
      obtain ⟨hE4, hk4⟩ := rep_fin hE2 hk2 hkY hYg hnG hio hi2 (Nat.le_trans hwN (Nat.le_trans hbw1.size hb12.size)) hN2 hh3 hb23
      have HL4 : Hid (Bt g w (w3.setCell ⟨g, 2, none⟩ (.slice (some ⟨w2.heap.size, 0, none⟩) N2 N2))) := Bt.set (((Bt.of hbw1).trans (Bt.of hb12)).trans (Bt.of hb23)) 2 _
      refine go_skip 19 _ rfl (by kernel_rfl) (by kernel_rfl) (by kernel_rfl) (w3.setCell ⟨g, 2, none⟩ (.slice (some ⟨w2.heap.size, 0, none⟩) N2 N2)) (ef_store hE3.cells.2.2.1 (hE3.frozen 2) (.tmp 63) (.tmp 61) (by kernel_rfl) (by kernel_rfl) (by kernel_rfl)) trivial ?_
      refine wpAnyH_done (by kernel_rfl) ?_ _
      refine NoPanic.normal ?_
      generalize w3.setCell ⟨g, 2, none⟩ (.slice (some ⟨w2.heap.size, 0, none⟩) N2 N2) = w4 at hE4 hk4 HL4 ⊢
      have HK4 : Hid (Eb w4 g vs (.slice (some ⟨w2.heap.size, 0, none⟩) N2 N2) p (cat X).length cur en ∧ Bks w4 N (.slice (some ⟨w2.heap.size, 0, none⟩) N2 N2) (X.take i1 ++ (Y ++ X.drop (i2 + 1)))) := ⟨hE4, hk4⟩
      obtain ⟨_, _, z2, z3, _, _⟩ := hE4.cells
      have zf3 := hE4.frozen 3
      have HCAT : Hid (cat (X.take i1 ++ (Y ++ X.drop (i2 + 1))) = putE (cat X) a b P) := (by
        show _ = _
        unfold putE
        rw [cat_append, cat_append, HY.out.2, H1.out, H2.out]
        simp)
      have HLEN : Hid (((cat X).length : Int) + ((P.length : Int) - ((b : Int) - (a : Int))) = ((putE (cat X) a b P).length : Int)) := (by
        show _ = _
        unfold putE
        simp only [List.length_append, List.length_take, List.length_drop]
        omega)
      have HB512 : Hid (512 * (X.take i1 ++ (Y ++ X.drop (i2 + 1))).length ≤ 512 * X.length + (cat X).length + P.length) := (by
        show _ ≤ _
        have h1 := HY.out.1
        have h2 := HNX.out
        have h3 := HMX.out
        have h4 := congrArg List.length HCAT.out
        have h5 := HLEN.out
        have h6 : N1 ≤ (cat X).length + P.length := (by
          have h7 := congrArg List.length HY.out.2
          have h8 := congrArg List.length H1.out
          have h9 := congrArg List.length H2.out
          simp only [List.length_append, List.length_take, List.length_drop] at h8 h9
          omega)
        simp only [List.length_append, List.length_take, List.length_drop]
        omega)
      clear hE4 hk4 hh3 hb23 hE3 hE2 hk2 hkY hb12 hYg hYl hjl2
      obtain ⟨tl, htl⟩ : ∃ tl, (cat X).length = tl := ⟨_, rfl⟩
      rw [htl] at z3 HLEN hT hb
      have HTL : Hid ((cat X).length = tl) := htl
      clear htl
      go_wp2
      first
        | go_end0
        | refine bodyPost_ret (results_none rfl _ _ _) rfl ?_
        | refine bodyPost_end (results_none rfl _ _ _) rfl ?_
      refine ⟨rfl, _, _, ?_, HK4.out.1.bks HK4.out.2 3 _, HCAT.out, HB512.out, HL4.out.set 3 _⟩
      rw [HCAT.out, ← HLEN.out]
      exact HK4.out.1.setC _
  · simp only [Act.put, List.setIfInBounds_toArray, List.set_cons_zero, List.set_cons_succ]
    refine go_take 15 60 _ (.slice sr (X.length - (i2 + 1)) (c - (i2 + 1))) rfl (by kernel_rfl) (by kernel_rfl) (by kernel_rfl) (by kernel_rfl) (fun _ _ _ h => h) (Or.inl ⟨by kernel_rfl, fun u _ => ef_slL (hsR u) ⟨_, _, _, rfl⟩ (.tmp 57) (.tmp 59) (by kernel_rfl) (by kernel_rfl) (by kernel_rfl)⟩) trivial ?_
    simp only [Act.put, List.setIfInBounds_toArray, List.set_cons_zero, List.set_cons_succ]
    refine ef_call [4, 8] (by kernel_rfl) (by decide) 8 53 _ rfl (by kernel_rfl) (by kernel_rfl) 50 (.func 50) #[.tmp 52] #[23] (by kernel_rfl) #[] (by kernel_rfl) #[.slice (some ⟨w.heap.size, 0, none⟩) N1 N1] (by kernel_rfl) (enters_of Tryz.func50 (by kernel_rfl) rfl) _ hcu2 ?_ 4 49 _ rfl (by kernel_rfl) (by kernel_rfl) (.slice (some ⟨o, 0, none⟩) X.length c) (ef_load e2 (.tmp 48) (by kernel_rfl) (by kernel_rfl)) trivial ?_ 4 49 _ rfl (by kernel_rfl) (by kernel_rfl) (.slice (some ⟨o, 0, none⟩) X.length c) (ef_load e2 (.tmp 48) (by kernel_rfl) (by kernel_rfl)) ?_ (.inl rfl)
    · rintro _ w2 _ ⟨Y, yo, yc, rfl, hkY, HcY, hYg, hYl, hb12⟩
      simp only [Act.put, List.setIfInBounds_toArray, List.set_cons_zero, List.set_cons_succ]
      refine go_val 4 49 _ rfl (by kernel_rfl) (by kernel_rfl) (by kernel_rfl) (.slice (some ⟨o, 0, none⟩) X.length c) _ (ef_load ((hE1.low hb12).cells.2.2.1) (.tmp 48) (by kernel_rfl) (by kernel_rfl)) trivial ?_
      simp only [Act.put, List.setIfInBounds_toArray, List.set_cons_zero, List.set_cons_succ]
      refine go_take 6 51 _ (.slice (some ⟨o, 0, none⟩) i1 c) rfl (by kernel_rfl) (by kernel_rfl) (by kernel_rfl) (by kernel_rfl) (fun _ _ _ h => h) (Or.inl ⟨by kernel_rfl, fun u _ => ef_slH (hsL u) ⟨_, _, _, rfl⟩ (.tmp 49) (.tmp 50) (by kernel_rfl) (by kernel_rfl) (by kernel_rfl)⟩) trivial ?_
      simp only [Act.put, List.setIfInBounds_toArray, List.set_cons_zero, List.set_cons_succ]
      have hE2 := hE1.low hb12
      have hk2 := hk1.low hb12
      have hh1 := holds_take hk2.holds (by simp) (Nat.le_of_lt hi1) ⟨o, rfl⟩
      have hh3 := holds_drop hk2.holds (by simp) (by omega : i2 + 1 ≤ X.length) ⟨o, rfl⟩
      rw [hsr] at hh3
      obtain ⟨N2, hN2⟩ : ∃ n, i1 + Y.length + (X.length - (i2 + 1)) = n := ⟨_, rfl⟩
      have HY : Hid (512 * Y.length ≤ N1 + 512 ∧ cat Y = L1 ++ (P ++ L2)) := ⟨hYl, HcY⟩
      have hN2b : N2 ≤ 1099511627776 := by have := HY.out.1; omega
      have hjl := joinedL_f _ _ _ i1 Y.length (X.length - (i2 + 1)) _ _ _ w2 hh1 hkY.holds hh3 (by show _ = _; rw [List.length_take, List.length_map]; omega) (by show _ = _; rw [List.length_map]) (by show _ = _; rw [List.length_drop, List.length_map]) (fun u hu => bkv_one X u (List.mem_of_mem_take hu)) (bkv_one Y) (fun u hu => bkv_one X u (List.mem_of_mem_drop hu)) N2 hN2 hN2b
      have hjl2 : Calls Tryz.prog 119 (#[.slice (some ⟨o, 0, none⟩) i1 c, .slice (some ⟨yo, 0, none⟩) Y.length yc, .slice sr (X.length - (i2 + 1)) (c - (i2 + 1))] ++ #[]) w2 fun e w' => ∃ v, e = .returned v ∧ True ∧ (v = .slice (some ⟨w2.heap.size, 0, none⟩) N2 N2 ∧ w'.heap[w2.heap.size]? = some (.cells ((X.map Bck.v).take i1 ++ (Y.map Bck.v ++ (X.map Bck.v).drop (i2 + 1))).toArray 23 (0, 0)) ∧ Below w2.heap.size w2 w') := hjl.mono fun e w' h => ⟨_, h.1, trivial, rfl, h.2.1, h.2.2⟩
      clear hjl hh1 hh3
      refine go_callE 16 61 _ rfl (by kernel_rfl) (by kernel_rfl) (by kernel_rfl) 119 (.func 119) #[.tmp 51, .tmp 53, .tmp 60] #[75, 75, 75] (by kernel_rfl) #[] (by kernel_rfl) #[.slice (some ⟨o, 0, none⟩) i1 c, .slice (some ⟨yo, 0, none⟩) Y.length yc, .slice sr (X.length - (i2 + 1)) (c - (i2 + 1))] (by kernel_rfl) (enters_of Tryz.func119 (by kernel_rfl) rfl) _ hjl2 ?_
      rintro _ w3 _ ⟨rfl, hh3, hb23⟩
      simp only [Act.put, List.setIfInBounds_toArray, List.set_cons_zero, List.set_cons_succ]
      refine go_take 17 62 _ (.pointer (some ⟨g, 2, none⟩)) rfl (by kernel_rfl) (by kernel_rfl) (by kernel_rfl) (by kernel_rfl) (fun _ _ _ h => h) (Or.inl ⟨by kernel_rfl, fun u _ => by kernel_rfl⟩) trivial ?_
      simp only [Act.put, List.setIfInBounds_toArray, List.set_cons_zero, List.set_cons_succ]
      refine go_take 18 63 _ (.pointer (some ⟨g, 2, none⟩)) rfl (by kernel_rfl) (by kernel_rfl) (by kernel_rfl) (by kernel_rfl) (fun _ _ _ h => h) (Or.inl ⟨by kernel_rfl, fun u _ => by kernel_rfl⟩) trivial ?_
      simp only [Act.put, List.setIfInBounds_toArray, List.set_cons_zero, List.set_cons_succ]
      have hE3 := hE2.low hb23
      obtain ⟨hE4, hk4⟩ := rep_fin hE2 hk2 hkY hYg hnG hio hi2 (Nat.le_trans hwN (Nat.le_trans hbw1.size hb12.size)) hN2 hh3 hb23
      have HL4 : Hid (Bt g w (w3.setCell ⟨g, 2, none⟩ (.slice (some ⟨w2.heap.size, 0, none⟩) N2 N2))) := Bt.set (((Bt.of hbw1).trans (Bt.of hb12)).trans (Bt.of hb23)) 2 _
      refine go_skip 19 _ rfl (by kernel_rfl) (by kernel_rfl) (by kernel_rfl) (w3.setCell ⟨g, 2, none⟩ (.slice (some ⟨w2.heap.size, 0, none⟩) N2 N2)) (ef_store hE3.cells.2.2.1 (hE3.frozen 2) (.tmp 63) (.tmp 61) (by kernel_rfl) (by kernel_rfl) (by kernel_rfl)) trivial ?_
      refine wpAnyH_done (by kernel_rfl) ?_ _
      refine NoPanic.normal ?_
      generalize w3.setCell ⟨g, 2, none⟩ (.slice (some ⟨w2.heap.size, 0, none⟩) N2 N2) = w4 at hE4 hk4 HL4 ⊢
      have HK4 : Hid (Eb w4 g vs (.slice (some ⟨w2.heap.size, 0, none⟩) N2 N2) p (cat X).length cur en ∧ Bks w4 N (.slice (some ⟨w2.heap.size, 0, none⟩) N2 N2) (X.take i1 ++ (Y ++ X.drop (i2 + 1)))) := ⟨hE4, hk4⟩
      obtain ⟨_, _, z2, z3, _, _⟩ := hE4.cells
      have zf3 := hE4.frozen 3
      have HCAT : Hid (cat (X.take i1 ++ (Y ++ X.drop (i2 + 1))) = putE (cat X) a b P) := (by
        show _ = _
        unfold putE
        rw [cat_append, cat_append, HY.out.2, H1.out, H2.out]
        simp)
      have HLEN : Hid (((cat X).length : Int) + ((P.length : Int) - ((b : Int) - (a : Int))) = ((putE (cat X) a b P).length : Int)) := (by
        show _ = _
        unfold putE
        simp only [List.length_append, List.length_take, List.length_drop]
        omega)
      have HB512 : Hid (512 * (X.take i1 ++ (Y ++ X.drop (i2 + 1))).length ≤ 512 * X.length + (cat X).length + P.length) := (by
        show _ ≤ _
        have h1 := HY.out.1
        have h2 := HNX.out
        have h3 := HMX.out
        have h4 := congrArg List.length HCAT.out
        have h5 := HLEN.out
        have h6 : N1 ≤ (cat X).length + P.length := (by
          have h7 := congrArg List.length HY.out.2
          have h8 := congrArg List.length H1.out
          have h9 := congrArg List.length H2.out
          simp only [List.length_append, List.length_take, List.length_drop] at h8 h9
          omega)
        simp only [List.length_append, List.length_take, List.length_drop]
        omega)
      clear hE4 hk4 hh3 hb23 hE3 hE2 hk2 hkY hb12 hYg hYl hjl2
      obtain ⟨tl, htl⟩ : ∃ tl, (cat X).length = tl := ⟨_, rfl⟩
      rw [htl] at z3 HLEN hT hb
      have HTL : Hid ((cat X).length = tl) := htl
      clear htl
      go_wp2
      first
        | go_end0
        | refine bodyPost_ret (results_none rfl _ _ _) rfl ?_
        | refine bodyPost_end (results_none rfl _ _ _) rfl ?_
      refine ⟨rfl, _, _, ?_, HK4.out.1.bks HK4.out.2 3 _, HCAT.out, HB512.out, HL4.out.set 3 _⟩
      rw [HCAT.out, ← HLEN.out]
      exact HK4.out.1.setC _
    · simp only [Act.put, List.setIfInBounds_toArray, List.set_cons_zero, List.set_cons_succ]
      refine go_take 6 51 _ (.slice (some ⟨o, 0, none⟩) i1 c) rfl (by kernel_rfl) (by kernel_rfl) (by kernel_rfl) (by kernel_rfl) (fun _ _ _ h => h) (Or.inl ⟨by kernel_rfl, fun u _ => ef_slH (hsL u) ⟨_, _, _, rfl⟩ (.tmp 49) (.tmp 50) (by kernel_rfl) (by kernel_rfl) (by kernel_rfl)⟩) trivial ?_
      simp only [Act.put, List.setIfInBounds_toArray, List.set_cons_zero, List.set_cons_succ]
      refine go_callE 8 53 _ rfl (by kernel_rfl) (by kernel_rfl) (by kernel_rfl) 50 (.func 50) #[.tmp 52] #[23] (by kernel_rfl) #[] (by kernel_rfl) #[.slice (some ⟨w.heap.size, 0, none⟩) N1 N1] (by kernel_rfl) (enters_of Tryz.func50 (by kernel_rfl) rfl) _ hcu2 ?_
      rintro _ w2 _ ⟨Y, yo, yc, rfl, hkY, HcY, hYg, hYl, hb12⟩
      simp only [Act.put, List.setIfInBounds_toArray, List.set_cons_zero, List.set_cons_succ]
      have hE2 := hE1.low hb12
      have hk2 := hk1.low hb12
      have hh1 := holds_take hk2.holds (by simp) (Nat.le_of_lt hi1) ⟨o, rfl⟩
      have hh3 := holds_drop hk2.holds (by simp) (by omega : i2 + 1 ≤ X.length) ⟨o, rfl⟩
      rw [hsr] at hh3
      obtain ⟨N2, hN2⟩ : ∃ n, i1 + Y.length + (X.length - (i2 + 1)) = n := ⟨_, rfl⟩
      have HY : Hid (512 * Y.length ≤ N1 + 512 ∧ cat Y = L1 ++ (P ++ L2)) := ⟨hYl, HcY⟩
      have hN2b : N2 ≤ 1099511627776 := by have := HY.out.1; omega
      have hjl := joinedL_f _ _ _ i1 Y.length (X.length - (i2 + 1)) _ _ _ w2 hh1 hkY.holds hh3 (by show _ = _; rw [List.length_take, List.length_map]; omega) (by show _ = _; rw [List.length_map]) (by show _ = _; rw [List.length_drop, List.length_map]) (fun u hu => bkv_one X u (List.mem_of_mem_take hu)) (bkv_one Y) (fun u hu => bkv_one X u (List.mem_of_mem_drop hu)) N2 hN2 hN2b
      have hjl2 : Calls Tryz.prog 119 (#[.slice (some ⟨o, 0, none⟩) i1 c, .slice (some ⟨yo, 0, none⟩) Y.length yc, .slice sr (X.length - (i2 + 1)) (c - (i2 + 1))] ++ #[]) w2 fun e w' => ∃ v, e = .returned v ∧ True ∧ (v = .slice (some ⟨w2.heap.size, 0, none⟩) N2 N2 ∧ w'.heap[w2.heap.size]? = some (.cells ((X.map Bck.v).take i1 ++ (Y.map Bck.v ++ (X.map Bck.v).drop (i2 + 1))).toArray 23 (0, 0)) ∧ Below w2.heap.size w2 w') := hjl.mono fun e w' h => ⟨_, h.1, trivial, rfl, h.2.1, h.2.2⟩
      clear hjl hh1 hh3
      refine go_callE 16 61 _ rfl (by kernel_rfl) (by kernel_rfl) (by kernel_rfl) 119 (.func 119) #[.tmp 51, .tmp 53, .tmp 60] #[75, 75, 75] (by kernel_rfl) #[] (by kernel_rfl) #[.slice (some ⟨o, 0, none⟩) i1 c, .slice (some ⟨yo, 0, none⟩) Y.length yc, .slice sr (X.length - (i2 + 1)) (c - (i2 + 1))] (by kernel_rfl) (enters_of Tryz.func119 (by kernel_rfl) rfl) _ hjl2 ?_
      rintro _ w3 _ ⟨rfl, hh3, hb23⟩
      simp only [Act.put, List.setIfInBounds_toArray, List.set_cons_zero, List.set_cons_succ]
      refine go_take 17 62 _ (.pointer (some ⟨g, 2, none⟩)) rfl (by kernel_rfl) (by kernel_rfl) (by kernel_rfl) (by kernel_rfl) (fun _ _ _ h => h) (Or.inl ⟨by kernel_rfl, fun u _ => by kernel_rfl⟩) trivial ?_
      simp only [Act.put, List.setIfInBounds_toArray, List.set_cons_zero, List.set_cons_succ]
      refine go_take 18 63 _ (.pointer (some ⟨g, 2, none⟩)) rfl (by kernel_rfl) (by kernel_rfl) (by kernel_rfl) (by kernel_rfl) (fun _ _ _ h => h) (Or.inl ⟨by kernel_rfl, fun u _ => by kernel_rfl⟩) trivial ?_
      simp only [Act.put, List.setIfInBounds_toArray, List.set_cons_zero, List.set_cons_succ]
      have hE3 := hE2.low hb23
      obtain ⟨hE4, hk4⟩ := rep_fin hE2 hk2 hkY hYg hnG hio hi2 (Nat.le_trans hwN (Nat.le_trans hbw1.size hb12.size)) hN2 hh3 hb23
      have HL4 : Hid (Bt g w (w3.setCell ⟨g, 2, none⟩ (.slice (some ⟨w2.heap.size, 0, none⟩) N2 N2))) := Bt.set (((Bt.of hbw1).trans (Bt.of hb12)).trans (Bt.of hb23)) 2 _
      refine go_skip 19 _ rfl (by kernel_rfl) (by kernel_rfl) (by kernel_rfl) (w3.setCell ⟨g, 2, none⟩ (.slice (some ⟨w2.heap.size, 0, none⟩) N2 N2)) (ef_store hE3.cells.2.2.1 (hE3.frozen 2) (.tmp 63) (.tmp 61) (by kernel_rfl) (by kernel_rfl) (by kernel_rfl)) trivial ?_
      refine wpAnyH_done (by kernel_rfl) ?_ _
      refine NoPanic.normal ?_
      generalize w3.setCell ⟨g, 2, none⟩ (.slice (some ⟨w2.heap.size, 0, none⟩) N2 N2) = w4 at hE4 hk4 HL4 ⊢
      have HK4 : Hid (Eb w4 g vs (.slice (some ⟨w2.heap.size, 0, none⟩) N2 N2) p (cat X).length cur en ∧ Bks w4 N (.slice (some ⟨w2.heap.size, 0, none⟩) N2 N2) (X.take i1 ++ (Y ++ X.drop (i2 + 1)))) := ⟨hE4, hk4⟩
      obtain ⟨_, _, z2, z3, _, _⟩ := hE4.cells
      have zf3 := hE4.frozen 3
      have HCAT : Hid (cat (X.take i1 ++ (Y ++ X.drop (i2 + 1))) = putE (cat X) a b P) := (by
        show _ = _
        unfold putE
        rw [cat_append, cat_append, HY.out.2, H1.out, H2.out]
        simp)
      have HLEN : Hid (((cat X).length : Int) + ((P.length : Int) - ((b : Int) - (a : Int))) = ((putE (cat X) a b P).length : Int)) := (by
        show _ = _
        unfold putE
        simp only [List.length_append, List.length_take, List.length_drop]
        omega)
      have HB512 : Hid (512 * (X.take i1 ++ (Y ++ X.drop (i2 + 1))).length ≤ 512 * X.length + (cat X).length + P.length) := (by
        show _ ≤ _
        have h1 := HY.out.1
        have h2 := HNX.out
        have h3 := HMX.out
        have h4 := congrArg List.length HCAT.out
        have h5 := HLEN.out
        have h6 : N1 ≤ (cat X).length + P.length := (by
          have h7 := congrArg List.length HY.out.2
          have h8 := congrArg List.length H1.out
          have h9 := congrArg List.length H2.out
          simp only [List.length_append, List.length_take, List.length_drop] at h8 h9
          omega)
        simp only [List.length_append, List.length_take, List.length_drop]
        omega)
      clear hE4 hk4 hh3 hb23 hE3 hE2 hk2 hkY hb12 hYg hYl hjl2
      obtain ⟨tl, htl⟩ : ∃ tl, (cat X).length = tl := ⟨_, rfl⟩
      rw [htl] at z3 HLEN hT hb
      have HTL : Hid ((cat X).length = tl) := htl
      clear htl
      go_wp2
      first
        | go_end0
        | refine bodyPost_ret (results_none rfl _ _ _) rfl ?_
        | refine bodyPost_end (results_none rfl _ _ _) rfl ?_
      refine ⟨rfl, _, _, ?_, HK4.out.1.bks HK4.out.2 3 _, HCAT.out, HB512.out, HL4.out.set 3 _⟩
      rw [HCAT.out, ← HLEN.out]
      exact HK4.out.1.setC _
    · simp only [Act.put, List.setIfInBounds_toArray, List.set_cons_zero, List.set_cons_succ]
      refine go_take 6 51 _ (.slice (some ⟨o, 0, none⟩) i1 c) rfl (by kernel_rfl) (by kernel_rfl) (by kernel_rfl) (by kernel_rfl) (fun _ _ _ h => h) (Or.inl ⟨by kernel_rfl, fun u _ => ef_slH (hsL u) ⟨_, _, _, rfl⟩ (.tmp 49) (.tmp 50) (by kernel_rfl) (by kernel_rfl) (by kernel_rfl)⟩) trivial ?_
      simp only [Act.put, List.setIfInBounds_toArray, List.set_cons_zero, List.set_cons_succ]
      refine go_callE 8 53 _ rfl (by kernel_rfl) (by kernel_rfl) (by kernel_rfl) 50 (.func 50) #[.tmp 52] #[23] (by kernel_rfl) #[] (by kernel_rfl) #[.slice (some ⟨w.heap.size, 0, none⟩) N1 N1] (by kernel_rfl) (enters_of Tryz.func50 (by kernel_rfl) rfl) _ hcu2 ?_
      rintro _ w2 _ ⟨Y, yo, yc, rfl, hkY, HcY, hYg, hYl, hb12⟩
      simp only [Act.put, List.setIfInBounds_toArray, List.set_cons_zero, List.set_cons_succ]
      have hE2 := hE1.low hb12
      have hk2 := hk1.low hb12
      have hh1 := holds_take hk2.holds (by simp) (Nat.le_of_lt hi1) ⟨o, rfl⟩
      have hh3 := holds_drop hk2.holds (by simp) (by omega : i2 + 1 ≤ X.length) ⟨o, rfl⟩
      rw [hsr] at hh3
      obtain ⟨N2, hN2⟩ : ∃ n, i1 + Y.length + (X.length - (i2 + 1)) = n := ⟨_, rfl⟩
      have HY : Hid (512 * Y.length ≤ N1 + 512 ∧ cat Y = L1 ++ (P ++ L2)) := ⟨hYl, HcY⟩
      have hN2b : N2 ≤ 1099511627776 := by have := HY.out.1; omega
      have hjl := joinedL_f _ _ _ i1 Y.length (X.length - (i2 + 1)) _ _ _ w2 hh1 hkY.holds hh3 (by show _ = _; rw [List.length_take, List.length_map]; omega) (by show _ = _; rw [List.length_map]) (by show _ = _; rw [List.length_drop, List.length_map]) (fun u hu => bkv_one X u (List.mem_of_mem_take hu)) (bkv_one Y) (fun u hu => bkv_one X u (List.mem_of_mem_drop hu)) N2 hN2 hN2b
      have hjl2 : Calls Tryz.prog 119 (#[.slice (some ⟨o, 0, none⟩) i1 c, .slice (some ⟨yo, 0, none⟩) Y.length yc, .slice sr (X.length - (i2 + 1)) (c - (i2 + 1))] ++ #[]) w2 fun e w' => ∃ v, e = .returned v ∧ True ∧ (v = .slice (some ⟨w2.heap.size, 0, none⟩) N2 N2 ∧ w'.heap[w2.heap.size]? = some (.cells ((X.map Bck.v).take i1 ++ (Y.map Bck.v ++ (X.map Bck.v).drop (i2 + 1))).toArray 23 (0, 0)) ∧ Below w2.heap.size w2 w') := hjl.mono fun e w' h => ⟨_, h.1, trivial, rfl, h.2.1, h.2.2⟩
      clear hjl hh1 hh3
      refine go_callE 16 61 _ rfl (by kernel_rfl) (by kernel_rfl) (by kernel_rfl) 119 (.func 119) #[.tmp 51, .tmp 53, .tmp 60] #[75, 75, 75] (by kernel_rfl) #[] (by kernel_rfl) #[.slice (some ⟨o, 0, none⟩) i1 c, .slice (some ⟨yo, 0, none⟩) Y.length yc, .slice sr (X.length - (i2 + 1)) (c - (i2 + 1))] (by kernel_rfl) (enters_of Tryz.func119 (by kernel_rfl) rfl) _ hjl2 ?_
      rintro _ w3 _ ⟨rfl, hh3, hb23⟩
      simp only [Act.put, List.setIfInBounds_toArray, List.set_cons_zero, List.set_cons_succ]
      refine go_take 17 62 _ (.pointer (some ⟨g, 2, none⟩)) rfl (by kernel_rfl) (by kernel_rfl) (by kernel_rfl) (by kernel_rfl) (fun _ _ _ h => h) (Or.inl ⟨by kernel_rfl, fun u _ => by kernel_rfl⟩) trivial ?_
      simp only [Act.put, List.setIfInBounds_toArray, List.set_cons_zero, List.set_cons_succ]
      refine go_take 18 63 _ (.pointer (some ⟨g, 2, none⟩)) rfl (by kernel_rfl) (by kernel_rfl) (by kernel_rfl) (by kernel_rfl) (fun _ _ _ h => h) (Or.inl ⟨by kernel_rfl, fun u _ => by kernel_rfl⟩) trivial ?_
      simp only [Act.put, List.setIfInBounds_toArray, List.set_cons_zero, List.set_cons_succ]
      have hE3 := hE2.low hb23
      obtain ⟨hE4, hk4⟩ := rep_fin hE2 hk2 hkY hYg hnG hio hi2 (Nat.le_trans hwN (Nat.le_trans hbw1.size hb12.size)) hN2 hh3 hb23
      have HL4 : Hid (Bt g w (w3.setCell ⟨g, 2, none⟩ (.slice (some ⟨w2.heap.size, 0, none⟩) N2 N2))) := Bt.set (((Bt.of hbw1).trans (Bt.of hb12)).trans (Bt.of hb23)) 2 _
      refine go_skip 19 _ rfl (by kernel_rfl) (by kernel_rfl) (by kernel_rfl) (w3.setCell ⟨g, 2, none⟩ (.slice (some ⟨w2.heap.size, 0, none⟩) N2 N2)) (ef_store hE3.cells.2.2.1 (hE3.frozen 2) (.tmp 63) (.tmp 61) (by kernel_rfl) (by kernel_rfl) (by kernel_rfl)) trivial ?_
      refine wpAnyH_done (by kernel_rfl) ?_ _
      refine NoPanic.normal ?_
      generalize w3.setCell ⟨g, 2, none⟩ (.slice (some ⟨w2.heap.size, 0, none⟩) N2 N2) = w4 at hE4 hk4 HL4 ⊢
      have HK4 : Hid (Eb w4 g vs (.slice (some ⟨w2.heap.size, 0, none⟩) N2 N2) p (cat X).length cur en ∧ Bks w4 N (.slice (some ⟨w2.heap.size, 0, none⟩) N2 N2) (X.take i1 ++ (Y ++ X.drop (i2 + 1)))) := ⟨hE4, hk4⟩
      obtain ⟨_, _, z2, z3, _, _⟩ := hE4.cells
      have zf3 := hE4.frozen 3
      have HCAT : Hid (cat (X.take i1 ++ (Y ++ X.drop (i2 + 1))) = putE (cat X) a b P) := (by
        show _ = _
        unfold putE
        rw [cat_append, cat_append, HY.out.2, H1.out, H2.out]
        simp)
      have HLEN : Hid (((cat X).length : Int) + ((P.length : Int) - ((b : Int) - (a : Int))) = ((putE (cat X) a b P).length : Int)) := (by
        show _ = _
        unfold putE
        simp only [List.length_append, List.length_take, List.length_drop]
        omega)
      have HB512 : Hid (512 * (X.take i1 ++ (Y ++ X.drop (i2 + 1))).length ≤ 512 * X.length + (cat X).length + P.length) := (by
        show _ ≤ _
        have h1 := HY.out.1
        have h2 := HNX.out
        have h3 := HMX.out
        have h4 := congrArg List.length HCAT.out
        have h5 := HLEN.out
        have h6 : N1 ≤ (cat X).length + P.length := (by
          have h7 := congrArg List.length HY.out.2
          have h8 := congrArg List.length H1.out
          have h9 := congrArg List.length H2.out
          simp only [List.length_append, List.length_take, List.length_drop] at h8 h9
          omega)
        simp only [List.length_append, List.length_take, List.length_drop]
        omega)
      clear hE4 hk4 hh3 hb23 hE3 hE2 hk2 hkY hb12 hYg hYl hjl2
      obtain ⟨tl, htl⟩ : ∃ tl, (cat X).length = tl := ⟨_, rfl⟩
      rw [htl] at z3 HLEN hT hb
      have HTL : Hid ((cat X).length = tl) := htl
      clear htl
      go_wp2
      first
        | go_end0
        | refine bodyPost_ret (results_none rfl _ _ _) rfl ?_
        | refine bodyPost_end (results_none rfl _ _ _) rfl ?_
      refine ⟨rfl, _, _, ?_, HK4.out.1.bks HK4.out.2 3 _, HCAT.out, HB512.out, HL4.out.set 3 _⟩
      rw [HCAT.out, ← HLEN.out]
      exact HK4.out.1.setC _
end Go.Proofs.YtnlbjknfahhfaaaGreatDoor

/- The code's all and result of layer 13, walked: all lines in a new list, by slices.Concat and slices.Grow. -/
set_option maxRecDepth 20000
namespace Go.Proofs.YtnlbjknfahhfaaaGreatDoor
open Go.RowKit

theorem wpList_efap {ops : Array Oper} {rest : List Oper} {o : Oper} {a : Act} {Q : Exit → Act → World → Prop} (w : World) (hw : Region.wanted o (yielded ops a.tmps) = true) (d s : Operand) (T T' : TypeId)
    (ho : o.op = .call { callee := .builtin .append, args := #[d, s], argTypes := #[T, T'] }) (v u : Value) (hd : a.eval d = v) (hs : a.eval s = u) (v' : Value) (w' : World)
    (hr : (Builtin.append_ #[T, T'] o.type #[v, u]).run Tryz.prog w = .ok v' w') (h : wpList Tryz.prog ops Q rest (a.put o.dst v') w') : wpList Tryz.prog ops Q (o :: rest) a w := by
  refine wpList_step fun K hK => ?_
  rw [if_pos hw]
  unfold Oper.wp
  simp [execOp, ho, resolve, invoke, builtin, hd, hs, hr, Result.andThen]
  exact hK _ _ h
set_option maxRecDepth 10000 in
set_option maxHeartbeats 2000000 in
theorem Grow_f (n : Nat) (hn : n ≤ 1099511627776) (w : World) :
    Calls Tryz.prog 120 #[.slice none 0 0, .int .i64 (n : Int)] w fun e w' => ∃ v, e = .returned v ∧ w'.ownsRow w.heap.size 9 1 v 0 [] ∧ Below w.heap.size w w' := by
  by_cases h0 : n = 0
  · subst h0
    go_enter Tryz.func120, Tryz.ntmps120
    go_wp2
    go_ret
    exact ⟨_, rfl, World.ownsRow_nil _ _ _ _, Below.refl _ _⟩
  · obtain ⟨i0, hi0, hz0, _, hzb⟩ := info_parts infoT
    have hold : (Builtin.firstCells i0.size 0 (.slice none 0 0)).run Tryz.prog w.drew = .ok ([] : List Value).toArray w.drew := by
      simp [Builtin.firstCells]
    obtain ⟨G, hG⟩ : ∃ G, grownCap w n 0 9 = G := ⟨_, rfl⟩
    have hGge : n ≤ G := by rw [← hG]; exact grownCap_ge _ _ _ _
    have hGle : G ≤ maxLen := by rw [← hG]; exact grownCap_le_maxLen _ _ _ _ (by unfold maxLen; omega)
    obtain ⟨row, hrow⟩ : ∃ row : Array Value, (([] : List Value).toArray ++ Builtin.zeroCells (Value.string ⟨#[]⟩).cells n ++ Builtin.zeroCells (Value.string ⟨#[]⟩).cells (G - n)) = row := ⟨_, rfl⟩
    have hrl : row.size = G * 1 := by
      rw [← hrow]
      simp [Builtin.zeroCells, Value.cells]
      omega
    have hrz : ∀ ty, (Builtin.append_ #[23, 3] ty #[.slice none 0 0, .int .i64 (n : Int)]).run Tryz.prog w = .ok (.slice (some ⟨w.heap.size, 0, none⟩) n G) (w.drew.alloc (.cells row 9)) := fun ty => by
      have h := Lib.run_append_grow_zeros (P := Tryz.prog) w 23 3 ty 9 i0 _ .i64 .i64 Tryz.underlying23 (by kernel_rfl) hi0 hz0 none 0 0 [] hold n (by omega) (by omega) (by omega) (by omega) (by rw [hzb]; omega) (by
        rw [hzb, Nat.zero_add]
        exact growslice_fits (by omega) (by omega))
      rw [Nat.zero_add, hG] at h
      rw [h, ← hrow]
    have hO := World.ownsRow_made (base := w.heap.size) (e := 9) (size := 1) w.drew row G (Nat.le_refl _) hGle hrl
    have hB : Below w.heap.size w (w.drew.alloc (.cells row 9)) := (Below.refl _ w).drew.alloc (Nat.le_refl _) _
    have hsl := fun u => run_slH (T := 23) (by kernel_rfl) efsT w.heap.size 0 n G 0 (Nat.zero_le _) u
    have HO : Hid ((w.drew.alloc (.cells row 9)).ownsRow w.heap.size 9 1 (.slice (some ⟨w.heap.size, 0, none⟩) 0 G) 0 []) := hO
    have h0p : (0 : Int) < (n : Int) := by omega
    clear hold hG hrow hrl hi0 hz0 hzb hGge hGle hO h0
    generalize w.drew.alloc (.cells row 9) = W1 at hrz HO hB
    go_enter Tryz.func120, Tryz.ntmps120
    go_wp2_with (at_builtin; refine wpList_efap _ (by kernel_rfl) (.tmp 20) (.tmp 21) 23 3 rfl _ _ rfl rfl _ _ (hrz _) ?_)
    go_wp2
    go_ret
    exact ⟨_, rfl, HO.out, hB⟩
set_option maxRecDepth 10000 in
set_option maxHeartbeats 4000000 in
theorem Concat_f (N : Nat) (ao : Option Addr) (n c : Nat) (X : List Bck) (w : World) (hk : Bks w N (.slice ao n c) X) (hX : X.length ≤ 549755813888) (hT : (cat X).length ≤ 1099511627776) :
    Calls Tryz.prog 85 #[.slice ao n c] w fun e w' => ∃ v, e = .returned v ∧ w'.ownsRow w.heap.size 9 1 v (cat X).length (scells (cat X)) ∧ Below w.heap.size w w' := by
  obtain ⟨o, rfl, rfl, _, hol, hcl⟩ := hk.at
  have HCL : Hid (∀ (u : World), Below w.heap.size w u → ∀ j (hj : j < X.length), u.cell? ⟨o, j, none⟩ = some X[j].v) := (by
    intro u hu j hj
    rw [World.cell?_of_block (w := w) (hu.block _ hol)]
    exact hcl j hj)
  have HBK : Hid (∀ x ∈ X, HB w N x) := hk.blk
  clear hcl hk
  go_enter Tryz.func85, Tryz.ntmps85
  go_wp2
  go_loopw [3, 11] (fun sv iv wr => ∃ i r : Nat, sv = .int .i64 (r : Int) ∧ iv = .int .i64 (i : Int) ∧ i ≤ X.length ∧ Hid ((cat (X.take i)).length = r) ∧ w = wr) (fun _ iv _ => X.length - (intOf iv).toNat)
  case atStart => exact ⟨0, 0, rfl, by go_num, Nat.zero_le _, rfl, rfl⟩
  case round =>
    obtain ⟨i, r, rfl, rfl, hi, hr, rfl⟩ := hrel
    by_cases hlt : i < X.length
    · have c0 := HCL.out w (Below.refl _ _) i hlt
      obtain ⟨m, hm⟩ : ∃ m, X[i].xs.length = m := ⟨_, rfl⟩
      have hv : X[i].v = .slice (some ⟨X[i].g, X[i].o, none⟩) m X[i].c := by rw [← hm]; rfl
      rw [hv] at c0
      have HSP : Hid ((cat (X.take (i + 1))).length = r + m) := (by show _ = _; rw [cat_take X i hlt, List.length_append, hm, hr.out])
      have hle : r + m ≤ (cat X).length := (by
        have h1 := cat_mono X (i + 1) X.length (by omega)
        rw [List.take_length, HSP.out] at h1
        exact h1)
      clear hv hm
      generalize (some (⟨X[i].g, X[i].o, none⟩ : Addr)) = ad at c0
      generalize X[i].c = cc at c0
      have j1 : (0 : Int) ≤ (i : Int) := by omega
      have j2 : (i : Int) < (X.length : Int) := by omega
      have j3 : decide ((r : Int) + (m : Int) < 0) = false := decide_eq_false (by omega)
      go_wp2
      exact ⟨⟨i + 1, r + m, by simp, by go_num, by omega, HSP, trivial⟩, by simp [intOf]; omega⟩
    · have ei : i = X.length := by omega
      subst ei
      have hrT : (cat X).length = r := by have := hr.out; rwa [List.take_length] at this
      have HRT : Hid ((cat X).length = r) := hrT
      have hrb : r ≤ 1099511627776 := by omega
      have hend : decide ((X.length : Int) < (X.length : Int)) = false := decide_eq_false (by omega)
      clear hrT hr hlt
      go_wp2_with fail
      refine (Grow_f r hrb w).mono ?_
      rintro e w1 ⟨v1, rfl, hO1, hB1⟩
      go_wp2
      go_loopw [6, 27] (fun rv iv wr => ∃ i : Nat, iv = .int .i64 (i : Int) ∧ i ≤ X.length ∧ (∃ oo oc, rv = .slice oo (cat (X.take i)).length oc) ∧ wr.ownsRow w.heap.size 9 1 rv (cat (X.take i)).length (scells (cat (X.take i))) ∧ Below w.heap.size w wr) (fun _ iv _ => X.length - (intOf iv).toNat)
      case atStart =>
        refine ⟨0, by go_num, Nat.zero_le _, ?_, ?_, hB1⟩
        · exact (holds_of hO1).form
        · exact hO1
      case round =>
        clear hO1 hB1
        obtain ⟨i, rfl, hi, ⟨oo, oc, rfl⟩, hO, hB⟩ := hrel
        by_cases hlt : i < X.length
        · have c0 := HCL.out _ hB i hlt
          have hbk := (HBK.out X[i] (List.getElem_mem _)).low hB
          have hal := hbk.all
          obtain ⟨m, hm⟩ : ∃ m, X[i].xs.length = m := ⟨_, rfl⟩
          have hv : X[i].v = .slice (some ⟨X[i].g, X[i].o, none⟩) m X[i].c := by rw [← hm]; rfl
          unfold HS at hal
          rw [hv, hm] at hal
          rw [hv] at c0
          have HCT : Hid (cat (X.take (i + 1)) = cat (X.take i) ++ X[i].xs) := cat_take X i hlt
          have hle : (cat (X.take i)).length + m ≤ (cat X).length := (by
            have h1 := cat_mono X (i + 1) X.length (by omega)
            rw [List.take_length, HCT.out, List.length_append, hm] at h1
            exact h1)
          obtain ⟨xs, hxs⟩ : ∃ xs, X[i].xs = xs := ⟨_, rfl⟩
          rw [hxs] at hal HCT hm
          have HML : Hid (xs.length = m) := hm
          clear hv hxs hbk hm
          generalize (some (⟨X[i].g, X[i].o, none⟩ : Addr)) = ad at c0 hal
          generalize X[i].c = cc at c0 hal
          obtain ⟨R, hR⟩ : ∃ R, cat (X.take i) = R := ⟨_, rfl⟩
          rw [hR] at HCT hle hO ⊢
          clear hR
          have j1 : (0 : Int) ≤ (i : Int) := by omega
          have j2 : (i : Int) < (X.length : Int) := by omega
          go_wp2_with (at_builtin; refine wpList_append_h _ (by kernel_rfl) (.tmp 31) (.tmp 32) 23 9 (.string ⟨#[]⟩) 1 16 rfl Tryz.underlying23 infoStr rfl (by decide) (by decide) w.heap.size _ _ _ rfl hO (.slice ad m cc) m (scells xs) rfl hal (by rw [scells_length, Nat.mul_one]; exact HML.out) (scells_one _) (by omega) hB.size ?_)
          intro v2 w2 hown2 hgrow2
          have hB2 : Below w.heap.size w w2 := hB.grown hgrow2 hB.size (fun j hj => owns_ge hO hj)
          obtain ⟨o2, c2, rfl⟩ := (holds_of hown2).form
          rw [← scells_append] at hown2
          have hln : (R ++ xs).length = R.length + m := by rw [List.length_append, HML.out]
          have HLN : Hid ((R ++ xs).length = R.length + m) := hln
          have HOW : Hid (w2.ownsRow w.heap.size 9 1 (.slice o2 (R.length + m) c2) (R.length + m) (scells (R ++ xs))) := hown2
          clear hown2 hgrow2 hO hB hal hln
          go_wp2
          refine ⟨⟨i + 1, by go_num, by omega, ⟨o2, c2, ?_⟩, ?_, hB2⟩, by simp [intOf]; omega⟩
          · rw [HCT.out, HLN.out]
          · rw [HCT.out, HLN.out]; exact HOW.out
        · have ei : i = X.length := by omega
          subst ei
          rw [List.take_length] at hO ⊢
          have hend2 : decide ((X.length : Int) < (X.length : Int)) = false := decide_eq_false (by omega)
          go_wp2
          go_ret
          exact ⟨_, rfl, hO, hB⟩
set_option maxHeartbeats 1000000 in
theorem all_f (w : World) (g N : Nat) (vs vl : Value) (p cnt cur : Int) (en : Bool) (X : List Bck) (hE : Eb w g vs vl p cnt cur en) (hk : Bks w N vl X) (hX : X.length ≤ 549755813888) (hT : (cat X).length ≤ 1099511627776) :
    Calls Tryz.prog 56 #[.pointer (some ⟨g, 2, none⟩)] w fun e w' => ∃ v, e = .returned v ∧ w'.ownsRow w.heap.size 9 1 v (cat X).length (scells (cat X)) ∧ Below w.heap.size w w' := by
  obtain ⟨o, c, _, rfl, _⟩ := hk.row
  have c2 := hE.cells.2.2.1
  have hC := Concat_f N _ _ _ X w hk hX hT
  clear hE hk
  go_enter Tryz.func56, Tryz.ntmps56
  go_wp2_with fail
  refine hC.mono ?_
  rintro e w1 ⟨v, rfl, h1, h2⟩
  go_wp2
  go_ret
  exact ⟨v, rfl, h1, h2⟩
end Go.Proofs.YtnlbjknfahhfaaaGreatDoor
