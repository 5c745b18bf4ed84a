/-
  Texts that belong together, joined: EdM5, EdIC.
-/
import Derived.Test.YtoacmaloiaeniaaPartB1
import Derived.Sort.AtCall

/- Going back, what a script costs, and what it reaches: plain mathematics. -/
namespace Go.Proofs.Ytoacmaloiaeniaa

/-- a change the other way round -/
def inv (c : Ch) : Ch := ⟨c.B, c.BN, c.A, c.AN⟩
def invL (l : List Ch) : List Ch := l.map inv
def sw (r : Rn) : Rn := ⟨r.b, r.a, r.n⟩
theorem inv_inv (c : Ch) : inv (inv c) = c := rfl
theorem invL_invL (l : List Ch) : invL (invL l) = l := by simp [invL, Function.comp_def, inv_inv]
theorem numB_inv (c : Ch) : numB (inv c) = true ↔ numB c = true := by
  rw [numB_iff, numB_iff]
  simp only [inv]
  omega
theorem Right.inv {f : Bool} {a b n m : Int} {l : List Ch} (h : Right f a b n m l) : Right f b a m n (invL l) := by
  induction l generalizing f a b with
  | nil => exact ⟨h.2.1, h.1, by have := h.2.2; omega⟩
  | cons c l ih =>
    obtain ⟨⟨h1, h2, h3, h4⟩, h5⟩ := h
    refine ⟨⟨(numB_inv c).2 h1, ?_, ?_, ?_⟩, ih h5⟩
    · show c.B - b = c.A - a; omega
    · show b ≤ c.B; omega
    · rcases h4 with h4 | h4
      · exact .inl h4
      · right; show b < c.B; omega
theorem Script.inv {n m : Int} {l : List Ch} (h : Script l n m) : Script (invL l) m n := ⟨h.2.1, h.1, h.2.2.inv⟩
theorem un_sw (a b : Int) (k : Nat) : (un a b k).map sw = un b a k := by
  induction k generalizing a b with
  | zero => rfl
  | succ k ih => rw [un, un, List.map_cons, ih]; rfl
theorem U_inv {f : Bool} {a b n m : Int} {l : List Ch} (h : Right f a b n m l) : U b a m n (invL l) = (U a b n m l).map sw := by
  induction l generalizing f a b with
  | nil =>
    obtain ⟨h1, h2, h3⟩ := h
    rw [invL, List.map_nil, U_nil, U_nil, un_sw, h3]
  | cons c l ih =>
    obtain ⟨⟨h1, h2, h3, h4⟩, h5⟩ := h
    have := ih h5
    unfold invL at this ⊢
    rw [List.map_cons, U_cons, U_cons, List.map_append, un_sw, ← this, h2]
    rfl

/-- a cost with some lines on top -/
def mo (s z : Int) : Int := s + min (max z 0) (2147483647 - s)
def costF : Int → List Ch → Int
  | s, [] => s
  | s, c :: l => costF (mo (mo s c.AN) c.BN) l
theorem mo_range {s z : Int} (h0 : 0 ≤ s) (h1 : s ≤ 2147483647) : 0 ≤ mo s z ∧ mo s z ≤ 2147483647 := by unfold mo; omega
theorem mo_add {s z : Int} (h0 : 0 ≤ z) (h1 : s + z ≤ 2147483647) : mo s z = s + z := by unfold mo; omega
theorem cost_right {f : Bool} {a b n m s : Int} {l : List Ch} (h : Right f a b n m l) (h0 : 0 ≤ s) (hs : s + (n - a) + (m - b) ≤ 2147483647) : costF s l = s + (n - a) + (m - b) - 2 * (U a b n m l).length := by
  have hul : ∀ (a b : Int) (k : Nat), (un a b k).length = k := by
    intro a b k
    induction k generalizing a b with
    | zero => rfl
    | succ k ih => rw [un, List.length_cons, ih]
  induction l generalizing f a b s with
  | nil =>
    obtain ⟨h1, h2, h3⟩ := h
    rw [costF, U_nil, hul]
    omega
  | cons c l ih =>
    obtain ⟨⟨h1, h2, h3, h4⟩, h5⟩ := h
    rw [numB_iff] at h1
    have hle := h5.le
    have e1 : mo s c.AN = s + c.AN := mo_add (by omega) (by omega)
    have e2 : mo (s + c.AN) c.BN = s + c.AN + c.BN := mo_add (by omega) (by omega)
    rw [costF, e1, e2, ih h5 (by omega) (by omega), U_cons, List.length_append, hul]
    omega
theorem cost_script {n m : Int} {l : List Ch} (h : Script l n m) (hs : n + m ≤ 2147483647) : costF 0 l = n + m - 2 * (U 0 0 n m l).length := by
  have := cost_right h.2.2 (Int.le_refl 0) (by omega)
  omega

/-- how many lines are taken out -/
def takenL : List Int → Int
  | [] => 0
  | z :: t => (if z < 0 then 1 else 0) + takenL t
theorem taken_kept {i : Int} {K : List Int} (h : ∀ z ∈ K, z = -1 ∨ 0 ≤ z) : takenL K = K.length - (keptR i K).length := by
  induction K generalizing i with
  | nil => rfl
  | cons z t ih =>
    have hz := h z (List.mem_cons_self ..)
    have ht := ih (i := i + 1) fun y hy => h y (List.mem_cons_of_mem _ hy)
    rw [takenL, keptR, ht]
    simp only [List.length_cons]
    split
    · rw [if_pos (by omega)]; omega
    · rw [if_neg (by omega)]; simp only [List.length_cons]; omega

theorem cut_eq {A B : List (List UInt8)} {a b : Int} {k : Nat} (ha : 0 ≤ a) (hb : 0 ≤ b) (h : ∀ r ∈ un a b k, A[r.a.toNat]? = B[r.b.toNat]?) : cut A a k = cut B b k := by
  apply List.ext_getElem?
  intro j
  simp only [cut, Int.toNat_natCast, List.getElem?_take, List.getElem?_drop]
  split
  · have := h ⟨a + j, b + j, 1⟩ (by rw [mem_un]; dsimp only; omega)
    dsimp only at this
    rw [show a.toNat + j = (a + (j : Int)).toNat by omega, show b.toNat + j = (b + (j : Int)).toNat by omega]
    exact this
  · rfl
theorem drop_cut {B : List (List UInt8)} {b : Int} {k : Nat} (hb : 0 ≤ b) : cut B b k ++ B.drop (b + k).toNat = B.drop b.toNat := by
  rw [cut, Int.toNat_natCast, show (b + (k : Int)).toNat = b.toNat + k by omega, ← List.drop_drop, List.take_append_drop]
theorem reach {A B : List (List UInt8)} {f : Bool} {a b : Int} {l : List Ch} (h : Right f a b A.length B.length l) (ha : 0 ≤ a) (hb : 0 ≤ b) (hs : ∀ r ∈ U a b A.length B.length l, A[r.a.toNat]? = B[r.b.toNat]?) :
    (piecesL a b A.length B.length l).flatMap (pa A B) = B.drop b.toNat := by
  induction l generalizing f a b with
  | nil =>
    obtain ⟨h1, h2, h3⟩ := h
    rw [U_nil] at hs
    simp only [piecesL, List.flatMap_cons, List.flatMap_nil, List.append_nil, pa]
    obtain ⟨k, hk⟩ : ∃ k : Nat, (A.length : Int) - a = k := ⟨((A.length : Int) - a).toNat, by omega⟩
    rw [hk, Int.toNat_natCast] at hs
    rw [hk, cut_eq ha hb hs]
    have e : cut B (B.length : Int) 0 = [] := by simp [cut]
    rw [e, List.append_nil]
    have := drop_cut (B := B) (k := k) hb
    rw [← this, List.drop_of_length_le (by omega), List.append_nil]
  | cons c l ih =>
    obtain ⟨⟨h1, h2, h3, h4⟩, h5⟩ := h
    rw [numB_iff] at h1
    rw [U_cons] at hs
    have hi := ih h5 (by omega) (by omega) fun r hr => hs r (List.mem_append_right _ hr)
    simp only [piecesL, List.flatMap_cons, pa]
    rw [hi]
    obtain ⟨k, hk⟩ : ∃ k : Nat, c.A - a = k := ⟨(c.A - a).toNat, by omega⟩
    obtain ⟨o, ho⟩ : ∃ o : Nat, c.BN = o := ⟨c.BN.toNat, by omega⟩
    rw [hk, Int.toNat_natCast] at hs
    rw [hk, ho, cut_eq ha hb fun r hr => hs r (List.mem_append_left _ hr)]
    have e1 := drop_cut (B := B) (b := c.B) (k := o) (by omega)
    have e2 := drop_cut (B := B) (b := b) (k := k) hb
    rw [List.append_assoc, e1, show c.B = b + k by omega, e2]
theorem apply_reach {A B : List (List UInt8)} {l : List Ch} (h : Script l A.length B.length) (hs : ∀ r ∈ U 0 0 A.length B.length l, A[r.a.toNat]? = B[r.b.toNat]?) : applyL l A B = B := by
  have := reach h.2.2 (Int.le_refl _) (Int.le_refl _) hs
  simpa [applyL] using this
end Go.Proofs.Ytoacmaloiaeniaa

/- Invert, Cost, and the law's own helpers Kept and taken, walked. -/
namespace Go.Proofs.Ytoacmaloiaeniaa
open Go.RowKit

theorem more_any (s z : Int) (w : World) (h0 : 0 ≤ s) (h1 : s ≤ 2147483647) : Calls Try.prog 32 #[.int .i64 s, .int .i64 z] w fun e w' => e = .returned (.int .i64 (mo s z)) ∧ w' = w := by
  by_cases hz : z < 0
  · go_enter Try.func32, Try.ntmps32
    go_wp2
    all_goals go_ret
    all_goals refine ⟨ret_int ?_, rfl⟩
    all_goals unfold mo
    all_goals omega
  by_cases hm : z ≤ 2147483647 - s
  · go_enter Try.func32, Try.ntmps32
    go_wp2
    all_goals go_ret
    all_goals refine ⟨ret_int ?_, rfl⟩
    all_goals unfold mo
    all_goals omega
  · go_enter Try.func32, Try.ntmps32
    go_wp2
    all_goals go_ret
    all_goals refine ⟨ret_int ?_, rfl⟩
    all_goals unfold mo
    all_goals omega

set_option maxHeartbeats 1000000 in
theorem Cost_f (l : List Ch) (r : Int) (v : Value) (w : World) (hl : HCh w v l) (hlen : l.length ≤ 1099511627776) (hr : Hid (costF 0 l = r)) :
    Calls Try.prog 18 #[v] w fun e w' => e = .returned (.int .i64 r) ∧ Below w.heap.size w w' := by
  obtain ⟨ao, ca, rfl⟩ := Holds.form hl
  go_enter Try.func18, Try.ntmps18
  go_wp2
  go_loopw [3, 8] (fun sv iv wr => ∃ (k : Nat) (s : Int), k ≤ l.length ∧ sv = .int .i64 s ∧ iv = .int .i64 k ∧ 0 ≤ s ∧ s ≤ 2147483647 ∧ Below w.heap.size w wr ∧ Hid (costF s (l.drop k) = r)) (fun _ iv _ => l.length - (intOf iv).toNat)
  case atStart => exact ⟨0, 0, Nat.zero_le _, rfl, rfl, by omega, by omega, Below.refl _ w, hr⟩
  case round =>
    obtain ⟨k, s, hk, rfl, rfl, h0, h1, hB, hR⟩ := hrel
    have hsz := hB.size
    by_cases hlt : k < l.length
    · obtain ⟨bk, off, rfl, hbk, hc⟩ := HCh.at (HCh.keep hl hB (Nat.le_refl _)) (by omega)
      obtain ⟨c0, c1, c2, c3⟩ := hc k hlt
      have hR' := hR.out
      rw [List.drop_eq_getElem_cons hlt] at hR'
      obtain ⟨c, hcd⟩ : ∃ c, l[k] = c := ⟨_, rfl⟩
      rw [hcd] at hR' c0 c1 c2 c3
      clear hc hcd hR
      have HR : Hid (costF (mo (mo s c.AN) c.BN) (l.drop (k + 1)) = r) := hR'
      clear hR'
      obtain ⟨A, AN, B, BN⟩ := c
      dsimp only at c0 c1 c2 c3 HR
      have i1 : 0 ≤ (k : Int) := by omega
      have i2 : (k : Int) < (l.length : Int) := by omega
      obtain ⟨m0, m1⟩ := mo_range (z := AN) h0 h1
      obtain ⟨n0, n1⟩ := mo_range (z := BN) m0 m1
      go_wp2_with fail
      have hbx := _root_.Go.heap_alloc_new wr (Obj.cells #[Value.int IntKind.i64 A, Value.int IntKind.i64 AN, Value.int IntKind.i64 B, Value.int IntKind.i64 BN] 51)
      have d1 : (wr.alloc (Obj.cells #[Value.int IntKind.i64 A, Value.int IntKind.i64 AN, Value.int IntKind.i64 B, Value.int IntKind.i64 BN] 51)).cell? ⟨wr.heap.size, 1, none⟩ = some (.int .i64 AN) := by rw [Lib.cell_of_heap hbx]; rfl
      have d3 : (wr.alloc (Obj.cells #[Value.int IntKind.i64 A, Value.int IntKind.i64 AN, Value.int IntKind.i64 B, Value.int IntKind.i64 BN] 51)).cell? ⟨wr.heap.size, 3, none⟩ = some (.int .i64 BN) := by rw [Lib.cell_of_heap hbx]; rfl
      clear hbx
      go_region_held3 (fun w' => w'.cell? ⟨wr.heap.size, 1, none⟩ = some (.int .i64 AN) ∧ w'.cell? ⟨wr.heap.size, 3, none⟩ = some (.int .i64 BN)) (go_keep)
        (first | (go_at_call_has 32 (Value.int IntKind.i64 AN); refine (more_any s AN _ h0 h1).mono ?_; rintro e w' ⟨rfl, rfl⟩) | (go_at_call_has 32 (Value.int IntKind.i64 BN); refine (more_any (mo s AN) BN _ m0 m1).mono ?_; rintro e w' ⟨rfl, rfl⟩))
      go_wp2
      go_roundw
      case rel => exact ⟨k + 1, mo (mo s AN) BN, by omega, rfl, by go_num, n0, n1, Below.dN (hB.alloc (by omega) _) 1, HR⟩
      case measure => simp [intOf]; omega
    · go_wp2
      go_ret
      refine ⟨ret_int ?_, hB⟩
      have := hR.out
      rw [List.drop_of_length_le (by omega)] at this
      exact this

/-- what a number of the law's own list says: how far a line lies behind the least one, and one more -/
def q4 (z : Int) : Int := (IntKind.u64.wrap z).tmod 4
theorem q4_range (z : Int) : 0 ≤ q4 z ∧ q4 z ≤ 3 := by
  have h : 0 ≤ IntKind.u64.wrap z := by rw [IntKind.wrap_u64]; omega
  unfold q4
  rw [Int.tmod_eq_emod_of_nonneg h]
  omega
/-- Kept -/
def keptK (m : Int) : Int → List Int → List Int
  | _, [] => []
  | nx, z :: t => if nx + q4 z - 1 < nx ∨ m ≤ nx + q4 z - 1 then -1 :: keptK m nx t else (nx + q4 z - 1) :: keptK m (nx + q4 z - 1 + 1) t
theorem keptK_length (m nx : Int) (l : List Int) : (keptK m nx l).length = l.length := by
  induction l generalizing nx with
  | nil => rfl
  | cons z t ih => rw [keptK]; split <;> simp [ih]
theorem keptK_vk {m nx : Int} {l : List Int} (h0 : 0 ≤ nx) : Vk nx m (keptK m nx l) := by
  induction l generalizing nx with
  | nil => trivial
  | cons z t ih =>
    have := q4_range z
    rw [keptK]
    split
    · exact .inl ⟨rfl, ih h0⟩
    · exact .inr ⟨by omega, by omega, by omega, ih (by omega)⟩

set_option maxHeartbeats 1000000 in
theorem Kept_f (l R : List Int) (m : Int) (v : Value) (w : World) (hl : HI w v l) (hlen : l.length ≤ 1048576) (hm : m ≤ 4294967296) (hR : Hid (keptK m 0 l = R)) :
    Calls Try.prog 26 #[v, .int .i64 m] w fun e w' => ∃ v', e = .returned v' ∧ w'.ownsRow w.heap.size 3 1 v' R.length (icells R) ∧ Below w.heap.size w w' := by
  obtain ⟨ao, ca, rfl⟩ := Holds.form hl
  go_enter Try.func26, Try.ntmps26
  go_wp2
  go_loopw [5, 6, 7] (fun kv nv iv wr => ∃ (k : Nat) (nx : Int) (X : List Int), k ≤ l.length ∧ (∃ oo oc, kv = .slice oo X.length oc) ∧ nv = .int .i64 nx ∧ iv = .int .i64 k ∧ 0 ≤ nx ∧ nx ≤ 4294967300 ∧ Below w.heap.size w wr ∧ wr.ownsRow w.heap.size 3 1 kv X.length (icells X) ∧ X.length ≤ k ∧ Hid (X ++ keptK m nx (l.drop k) = R)) (fun _ _ iv _ => l.length - (intOf iv).toNat)
  case atStart => exact ⟨0, 0, [], Nat.zero_le _, ⟨_, _, rfl⟩, rfl, rfl, by omega, by omega, Below.refl _ w, World.ownsRow_nil _ _ _ _, Nat.le_refl _, hR⟩
  case round =>
    obtain ⟨k, nx, X, hk, ⟨oo, oc, rfl⟩, rfl, rfl, hn0, hnm, hB, hO, hX, hR⟩ := hrel
    have hsz := hB.size
    by_cases hlt : k < l.length
    · obtain ⟨bk, off, rfl, hbk, hc⟩ := HI.at (HI.keep hl hB (Nat.le_refl _)) (by omega)
      have c0 := hc k hlt
      have hR' := hR.out
      rw [List.drop_eq_getElem_cons hlt] at hR'
      obtain ⟨z, hzd⟩ : ∃ z, l[k] = z := ⟨_, rfl⟩
      rw [hzd] at hR' c0
      clear hc hzd hR
      have HR : Hid (X ++ keptK m nx (z :: l.drop (k + 1)) = R) := hR'
      clear hR'
      obtain ⟨r0, r1⟩ := q4_range z
      have hq : (IntKind.u64.wrap z).tmod 4 = q4 z := rfl
      have h1 : wrap64 (q4 z) = q4 z := by unfold wrap64; omega
      have h2 : wrap64 (nx + q4 z) = nx + q4 z := by unfold wrap64; omega
      have h3 : wrap64 (nx + q4 z - 1) = nx + q4 z - 1 := by unfold wrap64; omega
      have i1 : 0 ≤ (k : Int) := by omega
      have i2 : (k : Int) < (l.length : Int) := by omega
      by_cases hlow : nx + q4 z - 1 < nx
      · go_wp2_with (at_builtin; refine wpList_append_h _ (by kernel_rfl) (.tmp 33) (.tmp 34) 26 3 (.int .i64 0) 1 8 rfl Try.underlying26 infoInt rfl (by decide) (by decide) w.heap.size _ _ _ rfl (hO.alloc _) _ 1 (icells [-1]) rfl (new_holds _ _ _ _ _ (by decide)) rfl (icells_one _) (by omega) (by simp; omega) ?_)
        intro v2 w2 hown2 hgrow2
        have hB2 : Below w.heap.size w w2 := (hB.alloc (by omega) _).grown hgrow2 (by simp; omega) (fun _ hj => owns_ge hO hj)
        rw [← icells_append] at hown2
        obtain ⟨oo2, oc2, rfl⟩ := (holds_of hown2).form
        clear hgrow2 c0
        go_wp2
        go_roundw
        case rel => exact ⟨k + 1, nx, X ++ [-1], by omega, ⟨_, _, by rw [List.length_append]; rfl⟩, by go_num, by go_num, by omega, by omega, hB2, by rw [List.length_append]; exact hown2, by simp; omega, (by
            have h := HR.out
            rw [keptK, if_pos (by omega)] at h
            show _ = _
            rw [← h]
            simp)⟩
        case measure => simp [intOf]; omega
      by_cases hhigh : m ≤ nx + q4 z - 1
      · go_wp2_with (at_builtin; refine wpList_append_h _ (by kernel_rfl) (.tmp 33) (.tmp 34) 26 3 (.int .i64 0) 1 8 rfl Try.underlying26 infoInt rfl (by decide) (by decide) w.heap.size _ _ _ rfl (hO.alloc _) _ 1 (icells [-1]) rfl (new_holds _ _ _ _ _ (by decide)) rfl (icells_one _) (by omega) (by simp; omega) ?_)
        intro v2 w2 hown2 hgrow2
        have hB2 : Below w.heap.size w w2 := (hB.alloc (by omega) _).grown hgrow2 (by simp; omega) (fun _ hj => owns_ge hO hj)
        rw [← icells_append] at hown2
        obtain ⟨oo2, oc2, rfl⟩ := (holds_of hown2).form
        clear hgrow2 c0
        go_wp2
        go_roundw
        case rel => exact ⟨k + 1, nx, X ++ [-1], by omega, ⟨_, _, by rw [List.length_append]; rfl⟩, by go_num, by go_num, by omega, by omega, hB2, by rw [List.length_append]; exact hown2, by simp; omega, (by
            have h := HR.out
            rw [keptK, if_pos (by omega)] at h
            show _ = _
            rw [← h]
            simp)⟩
        case measure => simp [intOf]; omega
      · go_wp2_with (at_builtin; refine wpList_append_h _ (by kernel_rfl) (.tmp 36) (.tmp 38) 26 3 (.int .i64 0) 1 8 rfl Try.underlying26 infoInt rfl (by decide) (by decide) w.heap.size _ _ _ rfl (hO.alloc _) _ 1 (icells [nx + q4 z - 1]) rfl (new_holds _ _ _ _ _ (by decide)) rfl (icells_one _) (by omega) (by simp; omega) ?_)
        intro v2 w2 hown2 hgrow2
        have hB2 : Below w.heap.size w w2 := (hB.alloc (by omega) _).grown hgrow2 (by simp; omega) (fun _ hj => owns_ge hO hj)
        rw [← icells_append] at hown2
        obtain ⟨oo2, oc2, rfl⟩ := (holds_of hown2).form
        clear hgrow2 c0
        go_wp2
        go_roundw
        case rel => exact ⟨k + 1, nx + q4 z - 1 + 1, X ++ [nx + q4 z - 1], by omega, ⟨_, _, by rw [List.length_append]; rfl⟩, by go_num, by go_num, by omega, by omega, hB2, by rw [List.length_append]; exact hown2, by simp; omega, (by
            have h := HR.out
            rw [keptK, if_neg (by omega)] at h
            show _ = _
            rw [← h]
            simp)⟩
        case measure => simp [intOf]; omega
    · have hR' := hR.out
      rw [List.drop_of_length_le (by omega), keptK, List.append_nil] at hR'
      subst hR'
      clear hR
      go_wp2
      go_ret
      exact ⟨_, rfl, hO, hB⟩
end Go.Proofs.Ytoacmaloiaeniaa
