/-
  For every engine, all lists of lines a and b, and whatever is ignored, of together at most 1048576 letters and values, the law EngineHonest returns true and leaves its arguments as they were: all that is kept counts as the same, no engine keeps more than the least script, and there are no changes just if the texts count as the same, line by line. The variables that the start lays are the listed ones.
-/
import Derived.Test.YtjhanfiohfakoaaGreatDoorPartC2
import Derived.Test.YtjhanfiohfakoaaGreatDoorPartC1
import Derived.Test.YtjhanfiohfakoaaGreatDoorPartA7
import Derived.Test.YtjhanfiohfakoaaGreatDoorPartA3
import Derived.Deep.CutRange
set_option maxRecDepth 20000
namespace Go.Proofs.YtjhanfiohfakoaaGreatDoor.engineHonest
open Go.ChangeShapes Go.WideShapes Go.ChangeAt Go.RowKit
attribute [local simp] low_drew

/-- the first i lines count as the same, and the texts are as long as one another -/
def smL (o : Tx.Cn.Ig) (a b : List (List UInt8)) : Nat → Bool
  | 0 => decide (a.length = b.length)
  | i + 1 => smL o a b i && Tx.eqL o (a.getD i []) (b.getD i [])
theorem smL_off {o : Tx.Cn.Ig} {a b : List (List UInt8)} {i : Nat} (h : smL o a b i = false) : ∀ d, smL o a b (i + d) = false := by
  intro d
  induction d with
  | zero => exact h
  | succ d ih => rw [← Nat.add_assoc, smL, ih]; rfl
theorem smL_on (o : Tx.Cn.Ig) (a b : List (List UInt8)) (n : Nat) : smL o a b n = true ↔ a.length = b.length ∧ ∀ j, j < n → Tx.Cn.canonL o (a.getD j []) = Tx.Cn.canonL o (b.getD j []) := by
  induction n with
  | zero => simp [smL]
  | succ n ih =>
    rw [smL, Bool.and_eq_true, ih]
    unfold Tx.eqL
    rw [beq_iff_eq]
    constructor
    · rintro ⟨⟨h1, h2⟩, h3⟩
      refine ⟨h1, fun j hj => ?_⟩
      rcases Nat.lt_or_ge j n with h | h
      · exact h2 j h
      · obtain rfl : j = n := by omega
        exact h3
    · rintro ⟨h1, h2⟩
      exact ⟨⟨h1, fun j hj => h2 j (by omega)⟩, h2 n (by omega)⟩
theorem getD_at (l : List (List UInt8)) {i : Nat} (h : i < l.length) : l.getD i [] = l[i] := by simp [List.getD, h]
theorem smL_all (o : Tx.Cn.Ig) (a b : List (List UInt8)) : smL o a b a.length = true ↔ clx o a b = cly o a b := by
  rw [smL_on, cl_same]
  refine and_congr_right fun hl => ⟨fun h i hi hj => ?_, fun h j hj => ?_⟩
  · have := h i hi
    rw [getD_at _ hi, getD_at _ hj] at this
    exact this
  · rw [getD_at _ hj, getD_at b (show j < b.length by omega)]
    exact h j hj (by omega)
theorem exec_ixI {u : World} {b off n c i : Nat} (hi : i < n) {op : Oper} (x y : Operand) (ho : op.op = .indexAddr 35 x y) {ev : Operand → Value} (hx : ev x = .slice (some ⟨b, off, none⟩) n c) (hy : ev y = .int .i64 (i : Int)) :
    (execOp ev op).run Tryz.prog u = .ok (.value (.pointer (some ⟨b, off + i, none⟩))) u := by
  have i1 : 0 ≤ (i : Int) := by omega
  have i2 : (i : Int) < (n : Int) := by omega
  simp only [execOp, ho, hx, hy]
  go_simp
theorem exec_ixS {u : World} {b off n c i : Nat} (hi : i < n) {op : Oper} (x y : Operand) (ho : op.op = .indexAddr 22 x y) {ev : Operand → Value} (hx : ev x = .slice (some ⟨b, off, none⟩) n c) (hy : ev y = .int .i64 (i : Int)) :
    (execOp ev op).run Tryz.prog u = .ok (.value (.pointer (some ⟨b, off + i, none⟩))) u := by
  have i1 : 0 ≤ (i : Int) := by omega
  have i2 : (i : Int) < (n : Int) := by omega
  simp only [execOp, ho, hx, hy]
  go_simp
theorem load_str {u : World} {a : Addr} {s : ByteArray} (h : u.cell? a = some (.string s)) {op : Oper} (x : Operand) (ho : op.op = .load 9 x) {ev : Operand → Value} (hx : ev x = .pointer (some a)) :
    (execOp ev op).run Tryz.prog u = .ok (.value (.string s)) u := by
  simp only [execOp, ho, hx]
  go_simp
theorem load_igE {o : Tx.Cn.Ig} {b : Nat} {w : World} (h : Tx.Boxed o b w) {op : Oper} (x : Operand) (ho : op.op = .load 24 x) {ev : Operand → Value} (hx : ev x = .pointer (some ⟨b, 0, none⟩)) :
    (execOp ev op).run Tryz.prog w = .ok (.value (.agg #[.bool o.sp, .bool o.wt, .bool o.bl, .bool o.cs, .bool o.tb, .bool o.tr])) w := by
  obtain ⟨d0, d1, d2, d3, d4, d5⟩ := h.cells
  simp only [execOp, ho, hx]
  go_simp
theorem exec_geq0 {u : World} {q : Nat} {op : Oper} (x y : Operand) (ho : op.op = .binOp .geq 3 x y 3) {ev : Operand → Value} (hx : ev x = .int .i64 (q : Int)) (hy : ev y = .int .i64 0) :
    (execOp ev op).run Tryz.prog u = .ok (.value (.bool true)) u := by
  have i1 : 0 ≤ (q : Int) := by omega
  simp only [execOp, ho, hx, hy]
  go_simp
theorem equal_held {o : Tx.Cn.Ig} {la lb : List UInt8} {eq : Bool} {W u : World} (h : Tx.eqL o la lb = eq) (hal : la.length ≤ 137438953472) (hbl : lb.length ≤ 137438953472) (hL : Low W u) :
    Calls Tryz.prog 14 (#[.string ⟨la.toArray⟩, .string ⟨lb.toArray⟩, .agg #[.bool o.sp, .bool o.wt, .bool o.bl, .bool o.cs, .bool o.tb, .bool o.tr]] ++ #[]) u fun e w' => ∃ v, e = .returned v ∧ Low W w' ∧ v = .bool eq := by
  refine (Tx.Equal_any la lb o u hal hbl).mono ?_
  rintro e w' ⟨rfl, hB⟩
  exact ⟨_, rfl, Below.trans hL (hB.mono (Below.size hL)), by rw [h]⟩

set_option maxRecDepth 10000 in
set_option maxHeartbeats 8000000 in
theorem walk (k : Int) (a b : List (List UInt8)) (o : Tx.Cn.Ig) (va vb : Value) (w : World) (hla : ∀ l ∈ a, l.length ≤ 137438953472) (hlb : ∀ l ∈ b, l.length ≤ 137438953472) (ha : HS w va a) (hb : HS w vb b) :
    Calls Tryz.prog 4 #[.int .i64 k, va, vb, Tx.igV o] w fun e w' => e = .returned (.bool true) ∧ Below w.heap.size w w' := by
  obtain ⟨ao, ac, rfl⟩ := Holds.form ha
  obtain ⟨bo, bc, rfl⟩ := Holds.form hb
  have HLA : Hid (∀ l ∈ a, l.length ≤ 137438953472) := hla
  have HLB : Hid (∀ l ∈ b, l.length ≤ 137438953472) := hlb
  clear hla hlb
  have hB0 := (Below.refl w.heap.size w).alloc (Nat.le_refl _) (igC o)
  have hBx0 := Tx.Boxed.fresh o w
  unfold igC at hB0
  unfold Tx.igV
  go_enter Tryz.func4, Tryz.ntmps4
  go_wp2_with fail
  refine (enWorks_any _).mono ?_
  rintro e w0 ⟨rfl, hBw⟩
  have hB1 := hB0.trans (hBw.mono hB0.size)
  have hBx1 := hBx0.keep hBw
  clear hB0 hBx0 hBw
  by_cases h1 : 150 < a.length
  · have e1 : decide ((150 : Int) < (a.length : Int)) = true := decide_eq_true (by omega)
    go_wp2
    go_ret
    exact ⟨rfl, hB1⟩
  have e1 : decide ((150 : Int) < (a.length : Int)) = false := decide_eq_false (by omega)
  by_cases h2 : 150 < b.length
  · have e2 : decide ((150 : Int) < (b.length : Int)) = true := decide_eq_true (by omega)
    go_wp2
    go_ret
    exact ⟨rfl, hB1⟩
  have e2 : decide ((150 : Int) < (b.length : Int)) = false := decide_eq_false (by omega)
  obtain ⟨Kd, hKd, hk⟩ := kind_of k
  obtain ⟨Z, hZ⟩ : ∃ Z, eng Kd (clx o a b) (cly o a b) = Z := ⟨_, rfl⟩
  obtain ⟨L, hL⟩ : ∃ L, mkL Z b.length = L := ⟨_, rfl⟩
  obtain ⟨M, hM⟩ : ∃ M, mkL (eng 1 (clx o a b) (cly o a b)) b.length = M := ⟨_, rfl⟩
  have hKp := eng_kpt Kd (clx o a b) (cly o a b)
  rw [hZ] at hKp
  have hvk := hKp.vk
  rw [cly_length] at hvk
  have hZl : Z.length = a.length := by rw [hKp.len, clx_length]
  obtain ⟨hSc, hkm, hlen⟩ := keep_mk hvk (by omega) (by omega) (by omega)
  rw [hL, hZl] at hSc hkm hlen
  have hcost : costF 0 M ≤ costF 0 L := by
    have := eng_cost Kd (clx o a b) (cly o a b) (by rw [clx_length]; omega) (by rw [cly_length]; omega)
    rw [hZ, cly_length, hL] at this
    rw [← hM]
    exact this
  have hMl : M.length ≤ 1048576 := by
    have h3 := mk_many (eng 1 (clx o a b) (cly o a b)) b.length
    rw [hM, (eng_kpt 1 (clx o a b) (cly o a b)).len, clx_length] at h3
    omega
  have hnil : decide (L.length = 0) = smL o a b a.length := by
    have h3 := eng_nil Kd (clx o a b) (cly o a b) (by rw [clx_length]; omega) (by rw [cly_length]; omega)
    rw [hZ, cly_length, hL] at h3
    cases h4 : smL o a b a.length with
    | true =>
      rw [(h3.2 ((smL_all o a b).1 h4))]
      rfl
    | false =>
      refine decide_eq_false fun h5 => ?_
      rw [(smL_all o a b).2 (h3.1 (List.eq_nil_of_length_eq_zero h5))] at h4
      cases h4
  have HEqs : Hid (∀ (i q : Nat), Z[i]? = some (q : Int) → ∃ (hi : i < a.length) (hq : q < b.length), Tx.eqL o a[i] b[q] = true) := (by
    intro i q hz
    have hi : i < a.length := by rw [← hZl]; exact (List.getElem?_eq_some_iff.1 hz).1
    have h3 := hKp.eqs i q hz
    have hq : q < b.length := by
      rw [List.getElem?_eq_getElem (by rw [clx_length]; exact hi)] at h3
      have := (List.getElem?_eq_some_iff.1 h3.symm).1
      rw [cly_length] at this
      exact this
    refine ⟨hi, hq, ?_⟩
    unfold Tx.eqL
    rw [beq_iff_eq]
    exact (cl_at o a b hi hq).1 h3)
  have HL1 : Hid (mkL (eng Kd (clx o a b) (cly o a b)) b.length = L) := (by rw [hZ]; exact hL)
  have HM1 : Hid (mkL (eng 1 (clx o a b) (cly o a b)) b.length = M) := hM
  have HV : Hid (Vk 0 b.length Z) := hvk
  have HZL : Hid (Z.length = a.length) := hZl
  have HSc : Hid (Script L a.length b.length) := hSc
  have HKm : Hid (keepL L a.length b.length = Z) := hkm
  have HNil : Hid (decide (L.length = 0) = smL o a b a.length) := hnil
  obtain ⟨rl, hrl⟩ : ∃ r, costF 0 L = r := ⟨_, rfl⟩
  obtain ⟨rm, hrm⟩ : ∃ r, costF 0 M = r := ⟨_, rfl⟩
  rw [hrl, hrm] at hcost
  have HRL : Hid (costF 0 L = rl) := hrl
  have HRM : Hid (costF 0 M = rm) := hrm
  have hLl : L.length ≤ 1048576 := by omega
  have ha1 := HS.keep ha hB1 (Nat.le_refl _)
  have hb1 := HS.keep hb hB1 (Nat.le_refl _)
  clear hZ hL hM hKp hvk hZl hSc hkm hlen hnil hrl hrm
  obtain ⟨d0, d1, d2, d3, d4, d5⟩ := hBx1.cells
  go_wp2_with fail
  rw [hKd]
  refine (En_f Kd o a b _ _ w0 ha1 hb1 hk (by omega) (by omega) HLA.out HLB.out L HL1).mono ?_
  rintro e w1 ⟨v1, rfl, hv1, hB2⟩
  obtain ⟨o1, c1, rfl⟩ := Holds.form hv1
  have hB02 := hB1.trans (hB2.mono hB1.size)
  have hBx2 := hBx1.keep hB2
  clear d0 d1 d2 d3 d4 d5 hBx1 ha1 hb1 hB1 hB2 hKd
  obtain ⟨d0, d1, d2, d3, d4, d5⟩ := hBx2.cells
  go_wp2_with fail
  refine (En_f 1 o a b _ _ w1 (HS.keep ha hB02 (Nat.le_refl _)) (HS.keep hb hB02 (Nat.le_refl _)) (by decide) (by omega) (by omega) HLA.out HLB.out M HM1).mono ?_
  rintro e w2 ⟨v2, rfl, hv2, hB3⟩
  obtain ⟨o2, c2, rfl⟩ := Holds.form hv2
  have hB03 := hB02.trans (hB3.mono hB02.size)
  have hBx3 := hBx2.keep hB3
  have hv13 := HCh.keep hv1 hB3 (Nat.le_refl _)
  clear d0 d1 d2 d3 d4 d5 hBx2 hB02 hB3 hv1
  go_wp2_with fail
  refine (Keep_ok L a.length b.length _ w2 hv13 HSc.out (by omega) (by omega) hLl).mono ?_
  rintro e w3 ⟨v3, rfl, hv3, hB4⟩
  rw [HKm.out] at hv3
  have hv3' : Holds w3 v3 a.length (icells Z) := by have := hv3; unfold HI at this; rw [HZL.out] at this; exact this
  obtain ⟨zo, zc, rfl⟩ := Holds.form hv3'
  have hB04 := hB03.trans (hB4.mono hB03.size)
  have hBx4 := hBx3.keep hB4
  have hv14 := HCh.keep hv13 hB4 (Nat.le_refl _)
  have hv24 := HCh.keep hv2 hB4 (Nat.le_refl _)
  clear hBx3 hB03 hB4 hv13 hv2 hv3
  have hsz := hB04.size
  go_wp2
  go_loopw [14] (fun iv wr => ∃ (i : Nat), i ≤ a.length ∧ iv = .int .i64 i ∧ Below w3.heap.size w3 wr) (fun iv _ => a.length - (intOf iv).toNat)
  case atStart => exact ⟨0, Nat.zero_le _, rfl, Below.refl _ _⟩
  case round =>
    obtain ⟨i, hi, rfl, hBr⟩ := hrel
    have hBx := hBx4.keep hBr
    have hBw := hB04.trans (hBr.mono hsz)
    by_cases hlt : i < a.length
    · have hiZ : i < Z.length := by rw [HZL.out]; exact hlt
      obtain ⟨zb, zf, zcc, hze, _, hcz⟩ := Holds.at (Holds.keep hv3' (fun q hq => hBr.block q hq)) (by rw [icells_length]; omega)
      cases hze
      have z0 := hcz i (by rw [icells_length]; omega)
      obtain ⟨j, hj⟩ : ∃ j, Z[i] = j := ⟨_, rfl⟩
      have z1 : wr.cell? ⟨zb, zf + i, none⟩ = some (.int .i64 j) := by rw [z0]; simp [icells, hj]
      have hjv := (HV.out.each (Int.le_refl _)) j (by rw [← hj]; exact List.getElem_mem _)
      by_cases hj1 : j = -1
      · subst hj1
        clear hcz z0 hj hjv
        have i2 : (i : Int) < (a.length : Int) := by omega
        go_wp2_with fail
        refine wp_region_noPanic ?_
        refine wp_region_held_drew (S := fun u => Low wr u) (by kernel_rfl) (Below.dN (Below.refl _ wr) 1) (fun hHeld => ?_)
        refine go_take 0 70 _ (.slice (some ⟨zb, zf, none⟩) a.length zc) rfl (by kernel_rfl) (by kernel_rfl) (by kernel_rfl) (by kernel_rfl) (fun _ _ _ h => h) (Or.inl ⟨by kernel_rfl, fun u hu => by kernel_rfl⟩) hHeld ?_
        simp only [Act.put, List.setIfInBounds_toArray, List.set_cons_zero, List.set_cons_succ]
        refine go_take 1 71 _ (.int .i64 (i : Int)) rfl (by kernel_rfl) (by kernel_rfl) (by kernel_rfl) (by kernel_rfl) (fun _ _ _ h => h) (Or.inl ⟨by kernel_rfl, fun u hu => by kernel_rfl⟩) hHeld ?_
        simp only [Act.put, List.setIfInBounds_toArray, List.set_cons_zero, List.set_cons_succ]
        refine go_take 2 72 _ (.pointer (some ⟨zb, zf + i, none⟩)) rfl (by kernel_rfl) (by kernel_rfl) (by kernel_rfl) (by kernel_rfl) (fun _ _ _ h => h) (Or.inl ⟨by kernel_rfl, fun u hu => exec_ixI (c := zc) hlt (.tmp 70) (.tmp 71) (by kernel_rfl) (by kernel_rfl) (by kernel_rfl)⟩) hHeld ?_
        simp only [Act.put, List.setIfInBounds_toArray, List.set_cons_zero, List.set_cons_succ]
        refine go_take 3 73 _ (.int .i64 (-1)) rfl (by kernel_rfl) (by kernel_rfl) (by kernel_rfl) (by kernel_rfl) (fun _ _ _ h => h) (Or.inl ⟨by kernel_rfl, fun u hu => load_int (cell_low hu z1) (.tmp 72) (by kernel_rfl) (by kernel_rfl)⟩) hHeld ?_
        simp only [Act.put, List.setIfInBounds_toArray, List.set_cons_zero, List.set_cons_succ]
        refine go_take 4 74 _ (.bool false) rfl (by kernel_rfl) (by kernel_rfl) (by kernel_rfl) (by kernel_rfl) (fun _ _ _ h => h) (Or.inl ⟨by kernel_rfl, fun u hu => by kernel_rfl⟩) hHeld ?_
        simp only [Act.put, List.setIfInBounds_toArray, List.set_cons_zero, List.set_cons_succ]
        refine go_take 5 75 _ (.bool false) rfl (by kernel_rfl) (by kernel_rfl) (by kernel_rfl) (by kernel_rfl) (fun _ _ _ h => h) (Or.inl ⟨by kernel_rfl, fun u hu => by kernel_rfl⟩) hHeld ?_
        simp only [Act.put, List.setIfInBounds_toArray, List.set_cons_zero, List.set_cons_succ]
        refine go_take 6 76 _ undef rfl (by kernel_rfl) (by kernel_rfl) (by kernel_rfl) (by kernel_rfl) (fun _ _ _ h => h) (Or.inr ⟨by kernel_rfl, rfl⟩) hHeld ?_
        simp only [Act.put, List.setIfInBounds_toArray, List.set_cons_zero, List.set_cons_succ]
        refine go_take 7 77 _ undef rfl (by kernel_rfl) (by kernel_rfl) (by kernel_rfl) (by kernel_rfl) (fun _ _ _ h => h) (Or.inr ⟨by kernel_rfl, rfl⟩) hHeld ?_
        simp only [Act.put, List.setIfInBounds_toArray, List.set_cons_zero, List.set_cons_succ]
        refine go_take 8 78 _ undef rfl (by kernel_rfl) (by kernel_rfl) (by kernel_rfl) (by kernel_rfl) (fun _ _ _ h => h) (Or.inr ⟨by kernel_rfl, rfl⟩) hHeld ?_
        simp only [Act.put, List.setIfInBounds_toArray, List.set_cons_zero, List.set_cons_succ]
        refine go_take 9 79 _ undef rfl (by kernel_rfl) (by kernel_rfl) (by kernel_rfl) (by kernel_rfl) (fun _ _ _ h => h) (Or.inr ⟨by kernel_rfl, rfl⟩) hHeld ?_
        simp only [Act.put, List.setIfInBounds_toArray, List.set_cons_zero, List.set_cons_succ]
        refine go_take 10 80 _ undef rfl (by kernel_rfl) (by kernel_rfl) (by kernel_rfl) (by kernel_rfl) (fun _ _ _ h => h) (Or.inr ⟨by kernel_rfl, rfl⟩) hHeld ?_
        simp only [Act.put, List.setIfInBounds_toArray, List.set_cons_zero, List.set_cons_succ]
        refine go_take 11 81 _ undef rfl (by kernel_rfl) (by kernel_rfl) (by kernel_rfl) (by kernel_rfl) (fun _ _ _ h => h) (Or.inr ⟨by kernel_rfl, rfl⟩) hHeld ?_
        simp only [Act.put, List.setIfInBounds_toArray, List.set_cons_zero, List.set_cons_succ]
        refine go_take 12 82 _ undef rfl (by kernel_rfl) (by kernel_rfl) (by kernel_rfl) (by kernel_rfl) (fun _ _ _ h => h) (Or.inr ⟨by kernel_rfl, rfl⟩) hHeld ?_
        simp only [Act.put, List.setIfInBounds_toArray, List.set_cons_zero, List.set_cons_succ]
        refine go_take 13 83 _ undef rfl (by kernel_rfl) (by kernel_rfl) (by kernel_rfl) (by kernel_rfl) (fun _ _ _ h => h) (Or.inr ⟨by kernel_rfl, rfl⟩) hHeld ?_
        simp only [Act.put, List.setIfInBounds_toArray, List.set_cons_zero, List.set_cons_succ]
        refine go_take 14 84 _ undef rfl (by kernel_rfl) (by kernel_rfl) (by kernel_rfl) (by kernel_rfl) (fun _ _ _ h => h) (Or.inr ⟨by kernel_rfl, rfl⟩) hHeld ?_
        simp only [Act.put, List.setIfInBounds_toArray, List.set_cons_zero, List.set_cons_succ]
        refine go_take 15 85 _ undef rfl (by kernel_rfl) (by kernel_rfl) (by kernel_rfl) (by kernel_rfl) (fun _ _ _ h => h) (Or.inr ⟨by kernel_rfl, rfl⟩) hHeld ?_
        simp only [Act.put, List.setIfInBounds_toArray, List.set_cons_zero, List.set_cons_succ]
        refine go_take 16 86 _ undef rfl (by kernel_rfl) (by kernel_rfl) (by kernel_rfl) (by kernel_rfl) (fun _ _ _ h => h) (Or.inr ⟨by kernel_rfl, rfl⟩) hHeld ?_
        simp only [Act.put, List.setIfInBounds_toArray, List.set_cons_zero, List.set_cons_succ]
        refine go_take 17 87 _ undef rfl (by kernel_rfl) (by kernel_rfl) (by kernel_rfl) (by kernel_rfl) (fun _ _ _ h => h) (Or.inr ⟨by kernel_rfl, rfl⟩) hHeld ?_
        simp only [Act.put, List.setIfInBounds_toArray, List.set_cons_zero, List.set_cons_succ]
        refine go_take 18 88 _ undef rfl (by kernel_rfl) (by kernel_rfl) (by kernel_rfl) (by kernel_rfl) (fun _ _ _ h => h) (Or.inr ⟨by kernel_rfl, rfl⟩) hHeld ?_
        simp only [Act.put, List.setIfInBounds_toArray, List.set_cons_zero, List.set_cons_succ]
        refine go_take 19 89 _ undef rfl (by kernel_rfl) (by kernel_rfl) (by kernel_rfl) (by kernel_rfl) (fun _ _ _ h => h) (Or.inr ⟨by kernel_rfl, rfl⟩) hHeld ?_
        simp only [Act.put, List.setIfInBounds_toArray, List.set_cons_zero, List.set_cons_succ]
        refine go_take 20 90 _ (.bool false) rfl (by kernel_rfl) (by kernel_rfl) (by kernel_rfl) (by kernel_rfl) (fun _ _ _ h => h) (Or.inl ⟨by kernel_rfl, fun u hu => by kernel_rfl⟩) hHeld ?_
        simp only [Act.put, List.setIfInBounds_toArray, List.set_cons_zero, List.set_cons_succ]
        refine wpAnyH_done (by kernel_rfl) ?_ _
        refine NoPanic.normal ?_
        have hBr2 := hBr.trans (Below.mono hHeld hBr.size)
        go_wp2
        go_roundw
        case rel => exact ⟨i + 1, by omega, by go_num, hBr2⟩
        case measure => simp [intOf]; omega
      · obtain ⟨q, rfl⟩ : ∃ q : Nat, j = q := ⟨j.toNat, by omega⟩
        obtain ⟨_, hqb, heq⟩ := HEqs.out i q (by rw [List.getElem?_eq_getElem hiZ, hj])
        obtain ⟨ab, af, rfl, _, hca⟩ := HS.at (HS.keep ha hBw (Nat.le_refl _)) (by omega)
        obtain ⟨bb, bf, rfl, _, hcb⟩ := HS.at (HS.keep hb hBw (Nat.le_refl _)) (by omega)
        have a1 := hca i hlt
        have b1 := hcb q hqb
        have hal := HLA.out _ (List.getElem_mem hlt)
        have hbl := HLB.out _ (List.getElem_mem hqb)
        obtain ⟨la, hla⟩ : ∃ l, a[i] = l := ⟨_, rfl⟩
        obtain ⟨lb, hlb⟩ : ∃ l, b[q] = l := ⟨_, rfl⟩
        rw [hla] at a1 hal heq
        rw [hlb] at b1 hbl heq
        have HEq : Hid (Tx.eqL o la lb = true) := heq
        clear hcz z0 hj hjv hca hcb hla hlb heq hj1
        have i2 : (i : Int) < (a.length : Int) := by omega
        go_wp2_with fail
        refine wp_region_noPanic ?_
        refine wp_region_held_drew (S := fun u => Low wr u) (by kernel_rfl) (Below.dN (Below.refl _ wr) 1) (fun hHeld => ?_)
        refine go_take 0 70 _ (.slice (some ⟨zb, zf, none⟩) a.length zc) rfl (by kernel_rfl) (by kernel_rfl) (by kernel_rfl) (by kernel_rfl) (fun _ _ _ h => h) (Or.inl ⟨by kernel_rfl, fun u hu => by kernel_rfl⟩) hHeld ?_
        simp only [Act.put, List.setIfInBounds_toArray, List.set_cons_zero, List.set_cons_succ]
        refine go_take 1 71 _ (.int .i64 (i : Int)) rfl (by kernel_rfl) (by kernel_rfl) (by kernel_rfl) (by kernel_rfl) (fun _ _ _ h => h) (Or.inl ⟨by kernel_rfl, fun u hu => by kernel_rfl⟩) hHeld ?_
        simp only [Act.put, List.setIfInBounds_toArray, List.set_cons_zero, List.set_cons_succ]
        refine go_take 2 72 _ (.pointer (some ⟨zb, zf + i, none⟩)) rfl (by kernel_rfl) (by kernel_rfl) (by kernel_rfl) (by kernel_rfl) (fun _ _ _ h => h) (Or.inl ⟨by kernel_rfl, fun u hu => exec_ixI (c := zc) hlt (.tmp 70) (.tmp 71) (by kernel_rfl) (by kernel_rfl) (by kernel_rfl)⟩) hHeld ?_
        simp only [Act.put, List.setIfInBounds_toArray, List.set_cons_zero, List.set_cons_succ]
        refine go_take 3 73 _ (.int .i64 (q : Int)) rfl (by kernel_rfl) (by kernel_rfl) (by kernel_rfl) (by kernel_rfl) (fun _ _ _ h => h) (Or.inl ⟨by kernel_rfl, fun u hu => load_int (cell_low hu z1) (.tmp 72) (by kernel_rfl) (by kernel_rfl)⟩) hHeld ?_
        simp only [Act.put, List.setIfInBounds_toArray, List.set_cons_zero, List.set_cons_succ]
        refine go_take 4 74 _ (.bool true) rfl (by kernel_rfl) (by kernel_rfl) (by kernel_rfl) (by kernel_rfl) (fun _ _ _ h => h) (Or.inl ⟨by kernel_rfl, fun u hu => exec_geq0 (q := q) (.tmp 73) (.const (.int .i64 0)) (by kernel_rfl) (by kernel_rfl) (by kernel_rfl)⟩) hHeld ?_
        simp only [Act.put, List.setIfInBounds_toArray, List.set_cons_zero, List.set_cons_succ]
        refine go_take 5 75 _ (.bool true) rfl (by kernel_rfl) (by kernel_rfl) (by kernel_rfl) (by kernel_rfl) (fun _ _ _ h => h) (Or.inl ⟨by kernel_rfl, fun u hu => by kernel_rfl⟩) hHeld ?_
        simp only [Act.put, List.setIfInBounds_toArray, List.set_cons_zero, List.set_cons_succ]
        refine go_take 6 76 _ (.slice (some ⟨ab, af, none⟩) a.length ac) rfl (by kernel_rfl) (by kernel_rfl) (by kernel_rfl) (by kernel_rfl) (fun _ _ _ h => h) (Or.inl ⟨by kernel_rfl, fun u hu => by kernel_rfl⟩) hHeld ?_
        simp only [Act.put, List.setIfInBounds_toArray, List.set_cons_zero, List.set_cons_succ]
        refine go_take 7 77 _ (.int .i64 (i : Int)) rfl (by kernel_rfl) (by kernel_rfl) (by kernel_rfl) (by kernel_rfl) (fun _ _ _ h => h) (Or.inl ⟨by kernel_rfl, fun u hu => by kernel_rfl⟩) hHeld ?_
        simp only [Act.put, List.setIfInBounds_toArray, List.set_cons_zero, List.set_cons_succ]
        refine go_take 8 78 _ (.pointer (some ⟨ab, af + i, none⟩)) rfl (by kernel_rfl) (by kernel_rfl) (by kernel_rfl) (by kernel_rfl) (fun _ _ _ h => h) (Or.inl ⟨by kernel_rfl, fun u hu => exec_ixS (c := ac) hlt (.tmp 76) (.tmp 77) (by kernel_rfl) (by kernel_rfl) (by kernel_rfl)⟩) hHeld ?_
        simp only [Act.put, List.setIfInBounds_toArray, List.set_cons_zero, List.set_cons_succ]
        refine go_take 9 79 _ (.string ⟨la.toArray⟩) rfl (by kernel_rfl) (by kernel_rfl) (by kernel_rfl) (by kernel_rfl) (fun _ _ _ h => h) (Or.inl ⟨by kernel_rfl, fun u hu => load_str (cell_low hu a1) (.tmp 78) (by kernel_rfl) (by kernel_rfl)⟩) hHeld ?_
        simp only [Act.put, List.setIfInBounds_toArray, List.set_cons_zero, List.set_cons_succ]
        refine go_take 10 80 _ (.slice (some ⟨bb, bf, none⟩) b.length bc) rfl (by kernel_rfl) (by kernel_rfl) (by kernel_rfl) (by kernel_rfl) (fun _ _ _ h => h) (Or.inl ⟨by kernel_rfl, fun u hu => by kernel_rfl⟩) hHeld ?_
        simp only [Act.put, List.setIfInBounds_toArray, List.set_cons_zero, List.set_cons_succ]
        refine go_take 11 81 _ (.slice (some ⟨zb, zf, none⟩) a.length zc) rfl (by kernel_rfl) (by kernel_rfl) (by kernel_rfl) (by kernel_rfl) (fun _ _ _ h => h) (Or.inl ⟨by kernel_rfl, fun u hu => by kernel_rfl⟩) hHeld ?_
        simp only [Act.put, List.setIfInBounds_toArray, List.set_cons_zero, List.set_cons_succ]
        refine go_take 12 82 _ (.int .i64 (i : Int)) rfl (by kernel_rfl) (by kernel_rfl) (by kernel_rfl) (by kernel_rfl) (fun _ _ _ h => h) (Or.inl ⟨by kernel_rfl, fun u hu => by kernel_rfl⟩) hHeld ?_
        simp only [Act.put, List.setIfInBounds_toArray, List.set_cons_zero, List.set_cons_succ]
        refine go_take 13 83 _ (.pointer (some ⟨zb, zf + i, none⟩)) rfl (by kernel_rfl) (by kernel_rfl) (by kernel_rfl) (by kernel_rfl) (fun _ _ _ h => h) (Or.inl ⟨by kernel_rfl, fun u hu => exec_ixI (c := zc) hlt (.tmp 81) (.tmp 82) (by kernel_rfl) (by kernel_rfl) (by kernel_rfl)⟩) hHeld ?_
        simp only [Act.put, List.setIfInBounds_toArray, List.set_cons_zero, List.set_cons_succ]
        refine go_take 14 84 _ (.int .i64 (q : Int)) rfl (by kernel_rfl) (by kernel_rfl) (by kernel_rfl) (by kernel_rfl) (fun _ _ _ h => h) (Or.inl ⟨by kernel_rfl, fun u hu => load_int (cell_low hu z1) (.tmp 83) (by kernel_rfl) (by kernel_rfl)⟩) hHeld ?_
        simp only [Act.put, List.setIfInBounds_toArray, List.set_cons_zero, List.set_cons_succ]
        refine go_take 15 85 _ (.pointer (some ⟨bb, bf + q, none⟩)) rfl (by kernel_rfl) (by kernel_rfl) (by kernel_rfl) (by kernel_rfl) (fun _ _ _ h => h) (Or.inl ⟨by kernel_rfl, fun u hu => exec_ixS (c := bc) hqb (.tmp 80) (.tmp 84) (by kernel_rfl) (by kernel_rfl) (by kernel_rfl)⟩) hHeld ?_
        simp only [Act.put, List.setIfInBounds_toArray, List.set_cons_zero, List.set_cons_succ]
        refine go_take 16 86 _ (.string ⟨lb.toArray⟩) rfl (by kernel_rfl) (by kernel_rfl) (by kernel_rfl) (by kernel_rfl) (fun _ _ _ h => h) (Or.inl ⟨by kernel_rfl, fun u hu => load_str (cell_low hu b1) (.tmp 85) (by kernel_rfl) (by kernel_rfl)⟩) hHeld ?_
        simp only [Act.put, List.setIfInBounds_toArray, List.set_cons_zero, List.set_cons_succ]
        refine go_take 17 87 _ (.agg #[.bool o.sp, .bool o.wt, .bool o.bl, .bool o.cs, .bool o.tb, .bool o.tr]) rfl (by kernel_rfl) (by kernel_rfl) (by kernel_rfl) (by kernel_rfl) (fun _ _ _ h => h) (Or.inl ⟨by kernel_rfl, fun u hu => load_igE (hBx.keep hu) (.tmp 7) (by kernel_rfl) (by kernel_rfl)⟩) hHeld ?_
        simp only [Act.put, List.setIfInBounds_toArray, List.set_cons_zero, List.set_cons_succ]
        refine go_callE 18 88 _ rfl (by kernel_rfl) (by kernel_rfl) (by kernel_rfl) 14 (.func 14) #[.tmp 79, .tmp 86, .tmp 87] #[9, 9, 24] (by kernel_rfl) #[] (by kernel_rfl) #[.string ⟨la.toArray⟩, .string ⟨lb.toArray⟩, .agg #[.bool o.sp, .bool o.wt, .bool o.bl, .bool o.cs, .bool o.tb, .bool o.tr]] (by kernel_rfl) (enters_of Tryz.func14 (by kernel_rfl) rfl) _ (equal_held HEq.out hal hbl hHeld) ?_
        rintro _ u18 hHeld rfl
        simp only [Act.put, List.setIfInBounds_toArray, List.set_cons_zero, List.set_cons_succ]
        refine go_take 19 89 _ (.bool false) rfl (by kernel_rfl) (by kernel_rfl) (by kernel_rfl) (by kernel_rfl) (fun _ _ _ h => h) (Or.inl ⟨by kernel_rfl, fun u hu => by kernel_rfl⟩) hHeld ?_
        simp only [Act.put, List.setIfInBounds_toArray, List.set_cons_zero, List.set_cons_succ]
        refine go_take 20 90 _ (.bool false) rfl (by kernel_rfl) (by kernel_rfl) (by kernel_rfl) (by kernel_rfl) (fun _ _ _ h => h) (Or.inl ⟨by kernel_rfl, fun u hu => by kernel_rfl⟩) hHeld ?_
        simp only [Act.put, List.setIfInBounds_toArray, List.set_cons_zero, List.set_cons_succ]
        refine wpAnyH_done (by kernel_rfl) ?_ _
        refine NoPanic.normal ?_
        have hBr2 := hBr.trans (Below.mono hHeld hBr.size)
        go_wp2
        go_roundw
        case rel => exact ⟨i + 1, by omega, by go_num, hBr2⟩
        case measure => simp [intOf]; omega
    · obtain rfl : i = a.length := by omega
      have e3 : ((a.length : Int) == (b.length : Int)) = smL o a b 0 := by
        show _ = decide (a.length = b.length)
        by_cases h : a.length = b.length
        · rw [decide_eq_true h, beq_iff_eq]
          omega
        · rw [decide_eq_false h]
          exact beq_eq_false_iff_ne.2 (by omega)
      obtain ⟨s0, hs0⟩ : ∃ s, smL o a b 0 = s := ⟨_, rfl⟩
      rw [hs0] at e3
      have HS0 : Hid (smL o a b 0 = s0) := hs0
      clear hs0 hlt
      go_wp2
      go_loopw [15, 16] (fun sv iv wt => ∃ (i : Nat), i ≤ a.length ∧ sv = .bool (smL o a b i) ∧ iv = .int .i64 i ∧ Below w3.heap.size w3 wt) (fun _ iv _ => a.length - (intOf iv).toNat)
      case atStart => exact ⟨0, Nat.zero_le _, by rw [HS0.out], rfl, hBr⟩
      case round =>
        clear hBr hBx hBw e3
        obtain ⟨i, hi, rfl, rfl, hBr⟩ := hrel
        have hBx := hBx4.keep hBr
        have hBw := hB04.trans (hBr.mono hsz)
        obtain ⟨s, hs⟩ : ∃ s, smL o a b i = s := ⟨_, rfl⟩
        by_cases hgo : i < a.length ∧ s = true
        · obtain ⟨hlt, rfl⟩ := hgo
          have hab := ((smL_on o a b i).1 hs).1
          have hib : i < b.length := by omega
          obtain ⟨ab, af, rfl, _, hca⟩ := HS.at (HS.keep ha hBw (Nat.le_refl _)) (by omega)
          obtain ⟨bb, bf, rfl, _, hcb⟩ := HS.at (HS.keep hb hBw (Nat.le_refl _)) (by omega)
          have a1 := hca i hlt
          have b1 := hcb i hib
          have hal := HLA.out _ (List.getElem_mem hlt)
          have hbl := HLB.out _ (List.getElem_mem hib)
          have hnx : smL o a b (i + 1) = Tx.eqL o a[i] b[i] := by
            rw [smL, hs, Bool.true_and, getD_at _ hlt, getD_at _ hib]
          obtain ⟨la, hla⟩ : ∃ l, a[i] = l := ⟨_, rfl⟩
          obtain ⟨lb, hlb⟩ : ∃ l, b[i] = l := ⟨_, rfl⟩
          rw [hla] at a1 hal hnx
          rw [hlb] at b1 hbl hnx
          obtain ⟨eq, heq⟩ : ∃ q, Tx.eqL o la lb = q := ⟨_, rfl⟩
          have HEq : Hid (Tx.eqL o la lb = eq) := heq
          rw [heq] at hnx
          have HNx : Hid (smL o a b (i + 1) = eq) := hnx
          rw [hs]
          clear hca hcb hla hlb heq hnx hs hab
          have i2 : (i : Int) < (a.length : Int) := by omega
          go_wp2_with fail
          refine wp_region_noPanic ?_
          refine wp_region_held_drew (S := fun u => Low wr u) (by kernel_rfl) (Below.dN (Below.refl _ wr) 1) (fun hHeld => ?_)
          refine go_take 0 105 _ (.slice (some ⟨ab, af, none⟩) a.length ac) rfl (by kernel_rfl) (by kernel_rfl) (by kernel_rfl) (by kernel_rfl) (fun _ _ _ h => h) (Or.inl ⟨by kernel_rfl, fun u hu => by kernel_rfl⟩) hHeld ?_
          simp only [Act.put, List.setIfInBounds_toArray, List.set_cons_zero, List.set_cons_succ]
          refine go_take 1 106 _ (.int .i64 (i : Int)) rfl (by kernel_rfl) (by kernel_rfl) (by kernel_rfl) (by kernel_rfl) (fun _ _ _ h => h) (Or.inl ⟨by kernel_rfl, fun u hu => by kernel_rfl⟩) hHeld ?_
          simp only [Act.put, List.setIfInBounds_toArray, List.set_cons_zero, List.set_cons_succ]
          refine go_take 2 107 _ (.pointer (some ⟨ab, af + i, none⟩)) rfl (by kernel_rfl) (by kernel_rfl) (by kernel_rfl) (by kernel_rfl) (fun _ _ _ h => h) (Or.inl ⟨by kernel_rfl, fun u hu => exec_ixS (c := ac) hlt (.tmp 105) (.tmp 106) (by kernel_rfl) (by kernel_rfl) (by kernel_rfl)⟩) hHeld ?_
          simp only [Act.put, List.setIfInBounds_toArray, List.set_cons_zero, List.set_cons_succ]
          refine go_take 3 108 _ (.string ⟨la.toArray⟩) rfl (by kernel_rfl) (by kernel_rfl) (by kernel_rfl) (by kernel_rfl) (fun _ _ _ h => h) (Or.inl ⟨by kernel_rfl, fun u hu => load_str (cell_low hu a1) (.tmp 107) (by kernel_rfl) (by kernel_rfl)⟩) hHeld ?_
          simp only [Act.put, List.setIfInBounds_toArray, List.set_cons_zero, List.set_cons_succ]
          refine go_take 4 109 _ (.slice (some ⟨bb, bf, none⟩) b.length bc) rfl (by kernel_rfl) (by kernel_rfl) (by kernel_rfl) (by kernel_rfl) (fun _ _ _ h => h) (Or.inl ⟨by kernel_rfl, fun u hu => by kernel_rfl⟩) hHeld ?_
          simp only [Act.put, List.setIfInBounds_toArray, List.set_cons_zero, List.set_cons_succ]
          refine go_take 5 110 _ (.int .i64 (i : Int)) rfl (by kernel_rfl) (by kernel_rfl) (by kernel_rfl) (by kernel_rfl) (fun _ _ _ h => h) (Or.inl ⟨by kernel_rfl, fun u hu => by kernel_rfl⟩) hHeld ?_
          simp only [Act.put, List.setIfInBounds_toArray, List.set_cons_zero, List.set_cons_succ]
          refine go_take 6 111 _ (.pointer (some ⟨bb, bf + i, none⟩)) rfl (by kernel_rfl) (by kernel_rfl) (by kernel_rfl) (by kernel_rfl) (fun _ _ _ h => h) (Or.inl ⟨by kernel_rfl, fun u hu => exec_ixS (c := bc) hib (.tmp 109) (.tmp 110) (by kernel_rfl) (by kernel_rfl) (by kernel_rfl)⟩) hHeld ?_
          simp only [Act.put, List.setIfInBounds_toArray, List.set_cons_zero, List.set_cons_succ]
          refine go_take 7 112 _ (.string ⟨lb.toArray⟩) rfl (by kernel_rfl) (by kernel_rfl) (by kernel_rfl) (by kernel_rfl) (fun _ _ _ h => h) (Or.inl ⟨by kernel_rfl, fun u hu => load_str (cell_low hu b1) (.tmp 111) (by kernel_rfl) (by kernel_rfl)⟩) hHeld ?_
          simp only [Act.put, List.setIfInBounds_toArray, List.set_cons_zero, List.set_cons_succ]
          refine go_take 8 113 _ (.agg #[.bool o.sp, .bool o.wt, .bool o.bl, .bool o.cs, .bool o.tb, .bool o.tr]) rfl (by kernel_rfl) (by kernel_rfl) (by kernel_rfl) (by kernel_rfl) (fun _ _ _ h => h) (Or.inl ⟨by kernel_rfl, fun u hu => load_igE (hBx.keep hu) (.tmp 7) (by kernel_rfl) (by kernel_rfl)⟩) hHeld ?_
          simp only [Act.put, List.setIfInBounds_toArray, List.set_cons_zero, List.set_cons_succ]
          refine go_callE 9 114 _ rfl (by kernel_rfl) (by kernel_rfl) (by kernel_rfl) 14 (.func 14) #[.tmp 108, .tmp 112, .tmp 113] #[9, 9, 24] (by kernel_rfl) #[] (by kernel_rfl) #[.string ⟨la.toArray⟩, .string ⟨lb.toArray⟩, .agg #[.bool o.sp, .bool o.wt, .bool o.bl, .bool o.cs, .bool o.tb, .bool o.tr]] (by kernel_rfl) (enters_of Tryz.func14 (by kernel_rfl) rfl) _ (equal_held HEq.out hal hbl hHeld) ?_
          rintro _ u9 hHeld rfl
          simp only [Act.put, List.setIfInBounds_toArray, List.set_cons_zero, List.set_cons_succ]
          refine go_take 10 15 _ (.bool eq) rfl (by kernel_rfl) (by kernel_rfl) (by kernel_rfl) (by kernel_rfl) (fun _ _ _ h => h) (Or.inl ⟨by kernel_rfl, fun u hu => by kernel_rfl⟩) hHeld ?_
          simp only [Act.put, List.setIfInBounds_toArray, List.set_cons_zero, List.set_cons_succ]
          refine wpAnyH_done (by kernel_rfl) ?_ _
          refine NoPanic.normal ?_
          have hBr2 := hBr.trans (Below.mono hHeld hBr.size)
          go_wp2
          go_roundw
          case rel => exact ⟨i + 1, by omega, by rw [HNx.out], by go_num, hBr2⟩
          case measure => simp [intOf]; omega
        · have hend : smL o a b a.length = s := by
            by_cases hlt : i < a.length
            · have h0 : s = false := by
                cases s with
                | false => rfl
                | true => exact absurd ⟨hlt, rfl⟩ hgo
              have := smL_off (hs.trans h0) (a.length - i)
              rw [show i + (a.length - i) = a.length by omega] at this
              rw [this, h0]
            · obtain rfl : i = a.length := by omega
              exact hs
          have e5 : ((L.length : Int) == 0) = s := by
            have h6 := HNil.out
            rw [hend] at h6
            rw [← h6]
            by_cases h : L.length = 0
            · simp [h]
            · simp [h]
          have hv1r := HCh.keep hv14 hBr (Nat.le_refl _)
          have hv2r := HCh.keep hv24 hBr (Nat.le_refl _)
          have e6 : decide (rm ≤ rl) = true := decide_eq_true hcost
          rw [hs]
          by_cases hlt : i < a.length
          · obtain rfl : s = false := by
              cases s with
              | false => rfl
              | true => exact absurd ⟨hlt, rfl⟩ hgo
            have i2 : (i : Int) < (a.length : Int) := by omega
            clear hgo hs hend
            go_wp2_with fail
            refine (Cost_f L rl _ wr hv1r (by omega) HRL).mono ?_
            rintro e w5 ⟨rfl, hB5⟩
            have hBw5 := hBw.trans (hB5.mono hBw.size)
            go_wp2_with fail
            refine (Cost_f M rm _ w5 (HCh.keep hv2r hB5 (Nat.le_refl _)) (by omega) HRM).mono ?_
            rintro e w6 ⟨rfl, hB6⟩
            have hBw6 := hBw5.trans (hB6.mono hBw5.size)
            go_wp2
            go_ret
            exact ⟨ret_bool (by simp), hBw6⟩
          · obtain rfl : i = a.length := by omega
            clear hgo hs hend hlt
            go_wp2_with fail
            refine (Cost_f L rl _ wr hv1r (by omega) HRL).mono ?_
            rintro e w5 ⟨rfl, hB5⟩
            have hBw5 := hBw.trans (hB5.mono hBw.size)
            go_wp2_with fail
            refine (Cost_f M rm _ w5 (HCh.keep hv2r hB5 (Nat.le_refl _)) (by omega) HRM).mono ?_
            rintro e w6 ⟨rfl, hB6⟩
            have hBw6 := hBw5.trans (hB6.mono hBw5.size)
            go_wp2
            go_ret
            exact ⟨ret_bool (by simp), hBw6⟩
set_option maxRecDepth 100000 in
theorem contract (H : Type) (enc : TypeId × Value → H) (W : World) (base : Nat) (args : Array Value) (ds gs : List (DataW H)) (before : List MemPlace)
    (hval : ∀ (j : Nat) t v, Tryz.f4.params[j]? = some t → args[j]? = some v → Value.okWide Tryz.prog W .any base t v)
    (hW : DataW.Whole enc Tryz.prog Tryz.f4.params.toList Rows.engineHonestSpec.vars false W args.toList ds gs before) (hk : Rows.uptoSmall H (ds ++ gs) = true) :
    Calls Tryz.prog 4 args W fun e W' => ∃ v, e = .returned v ∧ Rows.engineHonestSpec.post enc Tryz.prog Tryz.f4 false true false false W args v W' := by
  have hW' := hW
  obtain ⟨p, q, hA0, hV, rfl, hfz, hnd⟩ := hW
  have hA : DataW.TrodAll enc Tryz.prog W 0 (fun _ => true) true Tryz.f4.params.toList args.toList ds p := hA0
  rw [Tryz.params4] at hA hval
  obtain ⟨v0, vs0, d0, ds0, p0, q0, hargs, rfl, rfl, h0, r0⟩ := trodAll_cons hA
  obtain ⟨v1, vs1, d1, ds1, p1, q1, rfl, rfl, rfl, h1, r1⟩ := trodAll_cons r0
  obtain ⟨v2, vs2, d2, ds2, p2, q2, rfl, rfl, rfl, h2, r2⟩ := trodAll_cons r1
  obtain ⟨v3, vs3, d3, ds3, p3, q3, rfl, rfl, rfl, h3, r3⟩ := trodAll_cons r2
  obtain ⟨rfl, rfl, rfl⟩ := trodAll_nil r3
  obtain rfl : args = #[v0, v1, v2, v3] := by cases args; simp_all
  obtain ⟨rfl, rfl⟩ := trodVars_none hV
  obtain ⟨a1, len1, cap1, rfl⟩ := okWide_slice Tryz.underlying22 (hval 1 22 v1 rfl rfl)
  have k1 := h1
  have lt1 : ∀ x ∈ p1, x.block < W.heap.size := by obtain ⟨m, hm⟩ := k1; exact DataW.trod_lt m _ _ _ hm
  obtain ⟨a2, len2, cap2, rfl⟩ := okWide_slice Tryz.underlying22 (hval 2 22 v2 rfl rfl)
  have k2 := h2
  have lt2 : ∀ x ∈ p2, x.block < W.heap.size := by obtain ⟨m, hm⟩ := k2; exact DataW.trod_lt m _ _ _ hm
  obtain ⟨n0, rfl, rfl, rfl, wn0⟩ := open_int Tryz.underlying3 (hval 0 3 v0 rfl rfl) h0
  clear hA0
  simp only [List.append_nil] at hk
  have hbk : Rows.uptoBulkAll [.lit (.int .i64 n0), d1, d2, d3] ≤ 1048576 := of_decide_eq_true hk
  simp only [Rows.uptoBulkAll] at hbk
  obtain ⟨f1, hf1⟩ := h1
  obtain ⟨ws1, hv1, hwl1⟩ := Tx.open_texts (by simpa [Value.cells] using hf1)
  have he1 : ∀ a ∈ ws1, a.length ≤ 137438953472 := fun a ha => by have := Tx.each_le a ha; omega
  obtain ⟨f2, hf2⟩ := h2
  obtain ⟨ws2, hv2, hwl2⟩ := Tx.open_texts (by simpa [Value.cells] using hf2)
  have he2 : ∀ a ∈ ws2, a.length ≤ 137438953472 := fun a ha => by have := Tx.each_le a ha; omega
  obtain ⟨o, rfl, rfl, rfl⟩ := Tx.open_ig (hval 3 24 v3 rfl rfl) h3
  have hw := walk n0 ws1 ws2 o (.slice a1 len1 cap1) (.slice a2 len2 cap2) W he1 he2 (hs_of hv1) (hs_of hv2)
  refine hw.mono fun e W' ⟨he, bel⟩ => ?_
  subst he
  exact ⟨_, rfl, _, _, _, [], _, [], hW', trodAll_mk1 (shut_bool Tryz.underlying4 _), trodAll_cons_mk (shut_int Tryz.underlying3 wn0) (trodAll_cons_mk (Below.trod Tx.laidOut (by kernel_rfl) (of_decide_eq_true (by kernel_rfl)) k1 bel lt1) (trodAll_cons_mk (Below.trod Tx.laidOut (by kernel_rfl) (of_decide_eq_true (by kernel_rfl)) k2 bel lt2) (trodAll_cons_mk (Tx.shut_ig o) trodAll_mk0))), rfl, bel.frame _, fun h => by cases h⟩

theorem laid_met (os : Os) : laidMet Tryz.prog Rows.engineHonestUptoRow.laid ((Tx.laidOnU (World.holding Tryz.prog os ⟨#[], #[], []⟩)).forCall (fun _ _ => 0) ⟨#[], #[.int .i64 0, .slice none 0 0, .slice none 0 0, .agg #[.bool false, .bool false, .bool false, .bool false, .bool false, .bool false]], []⟩).memory :=
  laidMet_of_run' 8 (by kernel_rfl) (by kernel_rfl)
theorem reads (os : Os) {H : Type} (enc : TypeId × Value → H) : ∃ places, DataW.whole enc Tryz.prog ((Tx.laidOnU (World.holding Tryz.prog os ⟨#[], #[], []⟩)).forCall (fun _ _ => 0) ⟨#[], #[.int .i64 0, .slice none 0 0, .slice none 0 0, .agg #[.bool false, .bool false, .bool false, .bool false, .bool false, .bool false]], []⟩).memory Tryz.f4.params.toList Rows.engineHonestSpec.vars false #[Value.int .i64 0, Value.slice none 0 0, Value.slice none 0 0, Value.agg #[.bool false, .bool false, .bool false, .bool false, .bool false, .bool false]].toList 8 = some ([.lit (.int .i64 0), .nil, .nil, .agg [.lit (.bool false), .lit (.bool false), .lit (.bool false), .lit (.bool false), .lit (.bool false), .lit (.bool false)]], [], places) :=
  ⟨[], by kernel_rfl⟩

set_option maxRecDepth 100000 in
theorem lifted (os : Os) (started : os.Started) (H : Type) (enc : TypeId × Value → H) (F : Stop.Interp) :
    ReturnsInHanded {} Tryz.checked os 4 .any ((Rows.OpenSpec.upto Rows.engineHonestSpec).preRow enc Tryz.prog Tryz.f4 Rows.engineHonestUptoRow.domain false Rows.engineHonestUptoRow.laid) (((Rows.OpenSpec.upto Rows.engineHonestSpec).at F).post enc Tryz.prog Tryz.f4 false true false false) := by
  obtain ⟨places, hx⟩ := reads os enc
  refine returnsInHanded_of_row (C := Tryz.checked) (s := Rows.OpenSpec.upto Rows.engineHonestSpec) Tx.own started (by kernel_rfl) Tryz.func4
    (witness_row_at (enc := enc) (C := Tryz.checked) false (Tx.laidOnU (World.holding Tryz.prog os ⟨#[], #[], []⟩)) #[.int .i64 0, .slice none 0 0, .slice none 0 0, .agg #[.bool false, .bool false, .bool false, .bool false, .bool false, .bool false]] rfl (by kernel_rfl) (by kernel_rfl) (by kernel_rfl)
      (OpenSpec.preRow_of_cond 8 hx (by kernel_rfl) (fun k hk => by cases hk; kernel_rfl) (by kernel_rfl) (laid_met os))) ?_
  intro W base args ds gs before hval hW _ hcond _ _ _ _
  exact contract H enc W base args ds gs before hval hW (hcond _ rfl)

theorem said : Rows.EngineHonestUptoSaid :=
  OpenClaim.holds_of_cond 4 Tryz.f4 rfl rfl rfl rfl rfl rfl rfl ⟨rfl, rfl, rfl, rfl, rfl⟩ rfl rfl rfl rfl rfl (by kernel_rfl) Tryz.func4 (by kernel_rfl)
    (of_decide_eq_true (by kernel_rfl)) (by unfold Func.isWrapper; first | (rw [if_pos (by decide +kernel)]; kernel_rfl) | (rw [if_neg (by decide +kernel)]; exact ⟨rfl, rfl⟩))
    (fun os started H enc _ F => by rw [OpenClaim.pre_eq_preRow]; exact lifted os started H enc F)

theorem plain (f : FuncId) (fn : Func) (hf : Tryz.pinned.checked.prog.funcNamed "redline/redlinelaw10.EngineHonest" = some f) (hfn : Tryz.pinned.checked.prog.funcs[f]? = some fn) :
    false = Tryz.pinned.checked.prog.looks [] ∧ ∀ (j : Nat) t, fn.params[j]? = some t → Tryz.pinned.checked.prog.wantsStandIn t = false := by
  obtain rfl : f = 4 := Option.some.inj ((show Tryz.prog.funcNamed "redline/redlinelaw10.EngineHonest" = some 4 by kernel_rfl).symm.trans hf) |>.symm
  obtain rfl : fn = Tryz.f4 := (Option.some.inj (Tryz.func4.symm.trans hfn)).symm
  refine ⟨by kernel_rfl, fun j t ht => ?_⟩
  rw [Tryz.params4] at ht
  have hm : t = 3 ∨ t = 22 ∨ t = 22 ∨ t = 24 := by simpa using Array.mem_of_getElem? ht
  rcases hm with rfl | rfl | rfl | rfl
  · exact (show Tryz.prog.wantsStandIn 3 = false by kernel_rfl)
  · exact (show Tryz.prog.wantsStandIn 22 = false by kernel_rfl)
  · exact (show Tryz.prog.wantsStandIn 22 = false by kernel_rfl)
  · exact (show Tryz.prog.wantsStandIn 24 = false by kernel_rfl)

theorem card : Rows.EngineHonestUptoCardSaid :=
  Claim7.holds_tied_plain_at .later [] _ _ _ _ said (fun _ h => by cases h) (by kernel_rfl) (fun _ h => by cases h) engineHonestUpto_row_tie rfl ⟨rfl, rfl⟩ (by kernel_rfl) rfl plain (by kernel_rfl)
#print axioms card
end Go.Proofs.YtjhanfiohfakoaaGreatDoor.engineHonest
