/-
  For every two lists of texts and every list of numbers of together at most 1048576 letters and values, the law EditsReach returns true and leaves its arguments as they were: a script that keeps only lines that are the same in both texts makes the second text of the first one, and going back makes the first one of the second. The condition is the statement's own bound on what comes in; nothing else is asked.
-/
import Derived.Test.YtoacmaloiaeniaaPartE1
import Derived.Test.YtoacmaloiaeniaaPartG1
import Derived.Test.YtoacmaloiaeniaaPartH1
namespace Go.Proofs.Ytoacmaloiaeniaa.editsReach
open Go.ChangeShapes Go.WideShapes Go.ChangeAt Go.RowKit

theorem vk_neg {nx m : Int} {K : List Int} (h : Vk nx m K) (j : Nat) : Vk nx m (K ++ List.replicate j (-1)) := by
  induction K generalizing nx with
  | nil =>
    rw [List.nil_append]
    induction j with
    | zero => trivial
    | succ j ih => rw [List.replicate_succ]; exact .inl ⟨rfl, ih⟩
  | cons z t ih =>
    rcases h with ⟨h1, h2⟩ | ⟨h1, h2, h3, h4⟩
    · exact .inl ⟨h1, ih h2⟩
    · exact .inr ⟨h1, h2, h3, ih h4⟩
theorem vk_take {nx m : Int} {K : List Int} (h : Vk nx m K) (n : Nat) : Vk nx m (K.take n) := by
  induction K generalizing nx n with
  | nil => rw [List.take_nil]; trivial
  | cons z t ih =>
    cases n with
    | zero => trivial
    | succ n =>
      rw [List.take_succ_cons]
      rcases h with ⟨h1, h2⟩ | ⟨h1, h2, h3, h4⟩
      · exact .inl ⟨h1, ih h2 n⟩
      · exact .inr ⟨h1, h2, h3, ih h4 n⟩
theorem vk_ge {nx m : Int} {K : List Int} (h : Vk nx m K) : ∀ (i : Nat) (hi : i < K.length), K[i] ≠ -1 → nx ≤ K[i] := by
  induction K generalizing nx with
  | nil => intro i hi; simp at hi
  | cons z t ih =>
    intro i hi hne
    cases i with
    | zero =>
      rcases h with ⟨h1, _⟩ | ⟨_, h2, _, _⟩
      · exact absurd h1 hne
      · exact h2
    | succ i =>
      simp only [List.getElem_cons_succ] at hne ⊢
      have hi' : i < t.length := by simpa using hi
      rcases h with ⟨_, h2⟩ | ⟨_, h2, _, h4⟩
      · exact ih h2 i hi' hne
      · have := ih h4 i hi' hne
        omega
/-- numbers of a list of what is kept rise -/
theorem vk_rise {nx m : Int} {K : List Int} (h : Vk nx m K) : ∀ (i k : Nat) (hik : i < k) (hk : k < K.length), K[i] ≠ -1 → K[k] ≠ -1 → K[i] < K[k] := by
  induction K generalizing nx with
  | nil => intro i k _ hk; simp at hk
  | cons z t ih =>
    intro i k hik hk h1 h2
    obtain ⟨k, rfl⟩ : ∃ j, k = j + 1 := ⟨k - 1, by omega⟩
    have hk' : k < t.length := by simpa using hk
    cases i with
    | zero =>
      simp only [List.getElem_cons_succ, List.getElem_cons_zero] at h1 h2 ⊢
      rcases h with ⟨h3, _⟩ | ⟨_, _, _, h4⟩
      · exact absurd h3 h1
      · have := vk_ge h4 k hk' h2
        omega
    | succ i =>
      simp only [List.getElem_cons_succ] at h1 h2 ⊢
      rcases h with ⟨_, h3⟩ | ⟨_, _, _, h4⟩
      · exact ih h3 i k (by omega) hk' h1 h2
      · exact ih h4 i k (by omega) hk' h1 h2
/-- the front of a slice of numbers -/
theorem run_front (K : List Int) (ao : Option Addr) (cap n : Nat) (hn : n ≤ K.length) (w : World) (hK : HI w (.slice ao K.length cap) K) :
    ∃ vo vc, (∀ u : World, (Instr.slice 26 (.slice ao K.length cap) none (some (.int .i64 (n : Int))) none).run Try.prog u = .ok (.slice vo n vc) u) ∧ (∀ u : World, HI u (.slice ao K.length cap) K → HI u (.slice vo n vc) (K.take n)) := by
  have hnc : K.length ≤ cap := by
    rcases hK with ⟨h, h3, _⟩ | ⟨ad, c, h, h3, _⟩
    · omega
    · cases h; exact h3
  refine ⟨if cap = 0 then ao else ao.map (·.add 0), cap, fun u => ?_, fun u hu => ?_⟩
  · rw [run_slice_h (P := Try.prog) u 26 ao K.length cap (by kernel_rfl) .i64 n (by omega) (by omega)]
    have : (sizeOf (Try.prog.elem 26)).run Try.prog u = .ok 1 u := by kernel_rfl
    rw [this]
    simp [Result.andThen, sliced]
  · have hl : (K.take n).length = n := by simp; omega
    unfold HI
    rw [hl]
    rcases hu with ⟨h, h3, _⟩ | ⟨ad, c, h, h3, hc⟩
    · have : K = [] := List.eq_nil_of_length_eq_zero h3
      subst this
      have : n = 0 := by simpa using hn
      subst this
      simp only [List.length_nil] at h
      cases h
      exact .inl ⟨by simp, rfl, by simp [icells]⟩
    · cases h
      refine .inr ⟨if cap = 0 then ad else ad.add 0, cap, by split <;> simp, by omega, fun j x hj => ?_⟩
      have hj' := (List.getElem?_eq_some_iff.1 hj).1
      rw [icells_length, hl] at hj'
      rw [if_neg (by omega)]
      have h5 : (icells K)[j]? = some x := by
        simp only [icells, List.getElem?_map, List.getElem?_take] at hj ⊢
        rw [if_pos hj'] at hj
        exact hj
      obtain ⟨b, off, rfl⟩ := addr_of (hc 0 _ (List.getElem?_eq_getElem (by rw [icells_length]; omega)))
      have := hc _ _ h5
      rw [add_none] at this
      rw [add_none, add_none, Nat.add_zero]
      exact this
theorem run_makeS (a b : Nat) (h : a + b ≤ 1099511627776) (W : World) :
    (Instr.makeSlice 34 (.int .i64 ((a : Int) + (b : Int))) (.int .i64 ((a : Int) + (b : Int)))).run Try.prog W = .ok (.slice (some ⟨W.heap.size, 0, none⟩) (a + b) (a + b)) (W.alloc (.cells (madeCells #[.string ⟨#[]⟩] (a + b)) 9)) := by
  obtain ⟨i0, hi, hz0, hzs, hz2⟩ := info_parts infoStr
  have h1 : i0.bytes * (a + b) ≤ 16 * 1099511627776 := by rw [hz2]; exact Nat.mul_le_mul_left _ h
  have hr := run_make (P := Try.prog) W 34 9 i0 _ Try.underlying34 hi hz0 .i64 .i64 ((a + b : Nat) : Int) ((a + b : Nat) : Int) (by omega) (Int.le_refl _) (by
    have : ((i0.bytes * (a + b) : Nat) : Int) ≤ 281474976710656 := by omega
    rwa [Int.natCast_mul] at this) (by omega)
  rw [show ((a + b : Nat) : Int) = (a : Int) + (b : Int) by omega] at hr
  simpa [hzs, Value.cells, show ((a : Int) + (b : Int)).toNat = a + b by omega] using hr
def lenV : Value → Nat
  | .slice _ n _ => n
  | _ => 0
/-- what is the same in both texts -/
theorem reach_both {K : List Int} {A B : List (List UInt8)} {m : Int} (hB : (B.length : Int) = m) (hKl : K.length = A.length) (hv : Vk 0 m K) (hm : m ≤ 2147483647) (hl : K.length ≤ 1048576) (hs : ∀ (i : Nat) (h : i < K.length), 0 ≤ K[i] → B[K[i].toNat]? = A[i]?) :
    Script (mkL K m) A.length B.length ∧ applyL (mkL K m) A B = B ∧ Script (invL (mkL K m)) B.length A.length ∧ applyL (invL (mkL K m)) B A = A := by
  obtain ⟨sx, ux⟩ := mk_script hv (by omega) hm hl
  rw [hKl, ← hB] at sx ux
  rw [← hB] at *
  have key : ∀ r ∈ keptR 0 K, A[r.a.toNat]? = B[r.b.toNat]? := by
    intro r hr
    rw [mem_keptR] at hr
    obtain ⟨_, h2, h3, h4⟩ := hr
    rw [Int.sub_zero] at h3
    have hlt := (List.getElem?_eq_some_iff.1 h3).1
    have hz := hv.each (Int.le_refl _) _ (List.mem_of_getElem? h3)
    rw [List.getElem?_eq_getElem hlt, Option.some_inj] at h3
    have := hs r.a.toNat hlt (by omega)
    rw [h3] at this
    exact this.symm
  refine ⟨sx, apply_reach sx (by rw [ux]; exact key), sx.inv, apply_reach sx.inv ?_⟩
  rw [U_inv sx.2.2, ux]
  intro r hr
  rw [List.mem_map] at hr
  obtain ⟨s, hs', rfl⟩ := hr
  exact (key s hs').symm
theorem count_a {f : Bool} {a b n m : Int} {l : List Ch} (h : Right f a b n m l) : (l.length : Int) ≤ (n - a) + (if f then 1 else 0) := by
  induction l generalizing f a b with
  | nil => have := h.le; simp; split <;> omega
  | cons c l ih =>
    obtain ⟨⟨h1, h2, h3, h4⟩, h5⟩ := h
    rw [numB_iff] at h1
    have := ih h5
    simp only [List.length_cons, Bool.false_eq_true, if_false] at this ⊢
    rcases h4 with rfl | h4
    · simp only [if_true]; omega
    · split <;> omega
theorem scells_set (B : List (List UInt8)) (k : Nat) (s : List UInt8) : (scells B).set k (.string ⟨s.toArray⟩) = scells (B.set k s) := by simp [scells, List.map_set]

set_option maxRecDepth 10000 in
set_option maxHeartbeats 4000000 in
theorem walk (A : List (List UInt8)) (l : List Int) (more : List (List UInt8)) (va vl vm : Value) (w : World) (hA : A.length ≤ 1048576) (hlen : l.length ≤ 1048576) (hM : A.length + more.length ≤ 1048576) (ha : HS w va A) (hl : HI w vl l) (hm : HS w vm more) :
    Calls Try.prog 7 #[va, vl, vm] w fun e w' => e = .returned (.bool true) ∧ Below w.heap.size w w' := by
  obtain ⟨ao, ca, rfl⟩ := Holds.form ha
  obtain ⟨lo, lc, rfl⟩ := Holds.form hl
  obtain ⟨mo, mc, rfl⟩ := Holds.form hm
  by_cases hA2 : (200 : Int) < A.length
  · go_enter Try.func7, Try.ntmps7
    go_wp2_with fail
    refine (works_any w).mono ?_
    rintro e w1 ⟨rfl, hB1⟩
    go_wp2
    go_ret
    exact ⟨rfl, hB1⟩
  by_cases hl2 : (200 : Int) < l.length
  · go_enter Try.func7, Try.ntmps7
    go_wp2_with fail
    refine (works_any w).mono ?_
    rintro e w1 ⟨rfl, hB1⟩
    go_wp2
    go_ret
    exact ⟨rfl, hB1⟩
  obtain ⟨R0, hR0⟩ : ∃ R, keptK ((A.length : Int) + more.length) 0 l = R := ⟨_, rfl⟩
  have HR0 : Hid (keptK ((A.length : Int) + more.length) 0 l = R0) := hR0
  have hR0l : R0.length ≤ 200 := by rw [← hR0, keptK_length]; omega
  have HV0 : Hid (Vk 0 ((A.length : Int) + more.length) R0) := (by rw [← hR0]; exact keptK_vk (Int.le_refl _))
  clear hR0
  have hmk := run_makeS A.length more.length (by omega)
  go_enter Try.func7, Try.ntmps7
  go_wp2_with fail
  refine (works_any w).mono ?_
  rintro e w1 ⟨rfl, hB1⟩
  have hl1 := HI.keep hl hB1 (Nat.le_refl _)
  have ha1 := HS.keep ha hB1 (Nat.le_refl _)
  have hm1 := HS.keep hm hB1 (Nat.le_refl _)
  have hsz1 := hB1.size
  go_wp2_with fail
  refine (Kept_f l R0 _ _ w1 hl1 (by omega) (by omega) HR0).mono ?_
  rintro e w2 ⟨v2, rfl, hown2, hB2⟩
  obtain ⟨ko, kc, rfl⟩ := (holds_of hown2).form
  go_wp2
  go_loopw [8] (fun kv wr => ∃ (j : Nat) (K : List Int) (ko : Option Addr) (kc : Nat), kv = .slice ko K.length kc ∧ wr.ownsRow w1.heap.size 3 1 kv K.length (icells K) ∧ Below w1.heap.size w1 wr ∧ K.length ≤ 400 ∧ Hid (K = R0 ++ List.replicate j (-1))) (fun kv _ => A.length - lenV kv)
  case atStart => exact ⟨0, R0, _, _, rfl, hown2, hB2, by omega, (by show _ = _; simp)⟩
  case round =>
    clear hown2 hB2 hl1 hl
    obtain ⟨j, K, ko, kc, rfl, hO, hB, hKl, hK⟩ := hrel
    have hsz := hB.size
    by_cases hlt : (K.length : Int) < A.length
    · go_wp2_with (at_builtin; refine wpList_append_h _ (by kernel_rfl) (.tmp 39) (.tmp 40) 26 3 (.int .i64 0) 1 8 rfl Try.underlying26 infoInt rfl (by decide) (by decide) w1.heap.size _ _ _ rfl (hO.alloc _) _ 1 (icells [-1]) rfl (new_holds _ _ _ _ _ (by decide)) rfl (icells_one _) (by omega) (by simp; omega) ?_)
      intro v3 w3 hown3 hgrow3
      have hB3 : Below w1.heap.size w1 w3 := (hB.alloc (by omega) _).grown hgrow3 (by simp; omega) (fun _ hj => owns_ge hO hj)
      rw [← icells_append] at hown3
      obtain ⟨ko3, kc3, rfl⟩ := (holds_of hown3).form
      clear hgrow3
      go_wp2
      go_roundw
      case rel => exact ⟨j + 1, K ++ [-1], _, _, by rw [List.length_append]; rfl, by rw [List.length_append]; exact hown3, hB3, by simp; omega, (by show _ = _; rw [hK.out, List.append_assoc, List.replicate_succ'])⟩
      case measure => simp [lenV]; omega
    · obtain ⟨wo, hwo⟩ : ∃ wo, wo = wr := ⟨_, rfl⟩
      subst hwo
      obtain ⟨vo, vc, hsl, hfr⟩ := run_front K ko kc A.length (by omega) wo (holds_of hO)
      have hkf := hfr wo (holds_of hO)
      obtain ⟨Kf, hKf⟩ : ∃ Kf, K.take A.length = Kf := ⟨_, rfl⟩
      rw [hKf] at hkf
      have HKl : Hid (Kf.length = A.length) := (by show _ = _; rw [← hKf]; simp; omega)
      have HV : Hid (Vk 0 ((A.length : Int) + more.length) Kf) := (by rw [← hKf, hK.out]; exact vk_take (vk_neg HV0.out j) _)
      clear hfr hKf hK
      have hrow := World.ownsRow_lit (base := wo.heap.size) (e := 9) (size := 1) wo (madeCells #[.string ⟨#[]⟩] (A.length + more.length)) (A.length + more.length) (Nat.le_refl _) (by unfold maxLen; omega) (by rw [size_madeCells, Nat.mul_one])
      rw [toList_madeCells_one] at hrow
      have hrow2 : (wo.alloc (.cells (madeCells #[.string ⟨#[]⟩] (A.length + more.length)) 9)).ownsRow wo.heap.size 9 1 (.slice (some ⟨wo.heap.size, 0, none⟩) (A.length + more.length) (A.length + more.length)) (A.length + more.length) (scells (List.replicate (A.length + more.length) [])) := by
        rw [show scells (List.replicate (A.length + more.length) []) = List.replicate (A.length + more.length) (.string ⟨#[]⟩) by simp [scells]]
        exact hrow
      clear hrow
      obtain ⟨g, hg⟩ : ∃ g, wo.heap.size = g := ⟨_, rfl⟩
      have hBa := (Below.refl wo.heap.size wo).alloc (Nat.le_refl _) (.cells (madeCells #[.string ⟨#[]⟩] (A.length + more.length)) 9)
      have ham := HS.keep ha1 hB (Nat.le_refl _)
      have hmm := HS.keep hm1 hB (Nat.le_refl _)
      rw [hg] at hrow2 hBa
      go_wp2
      have HG : Hid (wo.heap.size = g) := hg
      clear hg
      go_loopw [10] (fun iv wz => ∃ (k : Nat) (Bs : List (List UInt8)), k ≤ A.length + more.length ∧ iv = .int .i64 k ∧ wz.ownsRow g 9 1 (.slice (some ⟨g, 0, none⟩) (A.length + more.length) (A.length + more.length)) (A.length + more.length) (scells Bs) ∧ Below g wo wz) (fun iv _ => (A.length + more.length) - (intOf iv).toNat)
      case atStart => exact ⟨0, _, Nat.zero_le _, rfl, hrow2, hBa⟩
      case round =>
        clear hrow2 hBa
        obtain ⟨k, Bs, hk, rfl, hOb, hBb⟩ := hrel
        have hgz := hBb.size
        by_cases hlt2 : k < A.length + more.length
        · have i0 : (k : Int) < (A.length : Int) + (more.length : Int) := by omega
          by_cases hmo : (0 : Int) < more.length
          · have hmz := HS.keep hmm hBb (by have := HG.out; omega)
            obtain ⟨bm, om, rfl, _, hcm⟩ := HS.at hmz (by omega)
            have hlm : k % more.length < more.length := Nat.mod_lt _ (by omega)
            have c0 := hcm (k % more.length) hlm
            obtain ⟨tx, htx⟩ : ∃ tx, more[k % more.length] = tx := ⟨_, rfl⟩
            rw [htx] at c0
            clear hcm htx hmz
            have hrem : Int.tmod (k : Int) (more.length : Int) = ((k % more.length : Nat) : Int) := by
              rw [Int.tmod_eq_emod_of_nonneg (by omega)]
              omega
            obtain ⟨q, hq⟩ : ∃ q, k % more.length = q := ⟨_, rfl⟩
            rw [hq] at c0 hrem hlm
            clear hq
            have hcl := hOb.cellAt k (by omega)
            have hbl : k < (scells Bs).length := by rw [hOb.1]; omega
            rw [List.getElem?_eq_getElem hbl] at hcl
            obtain ⟨y, hy⟩ : ∃ y, (scells Bs)[k] = y := ⟨_, rfl⟩
            rw [hy] at hcl
            clear hy hbl
            have hfz := hOb.frozenAt k
            obtain ⟨hOb2, hg2⟩ := hOb.stored k (.string ⟨tx.toArray⟩)
            rw [scells_set] at hOb2
            have hBb2 := hBb.grown hg2 (by have := HG.out; omega) (fun j hj => by cases hj; exact Nat.le_refl _)
            clear hg2
            have i1 : 0 ≤ (k : Int) := by omega
            have i2 : 0 ≤ (q : Int) := by omega
            have i3 : (q : Int) < (more.length : Int) := by omega
            go_wp2
            go_roundw
            case rel => exact ⟨k + 1, _, by omega, by go_num, hOb2, hBb2⟩
            case measure => simp [intOf]; omega
          · go_wp2
            go_roundw
            case rel => exact ⟨k + 1, Bs, by omega, by go_num, hOb, hBb⟩
            case measure => simp [intOf]; omega
        · have i0 : (A.length : Int) + (more.length : Int) ≤ (k : Int) := by omega
          go_wp2
          go_loopw [11] (fun iv wz => ∃ (k : Nat) (Bs : List (List UInt8)), k ≤ A.length ∧ iv = .int .i64 k ∧ wz.ownsRow g 9 1 (.slice (some ⟨g, 0, none⟩) (A.length + more.length) (A.length + more.length)) (A.length + more.length) (scells Bs) ∧ Below g wo wz ∧ Hid (∀ (i : Nat) (h : i < Kf.length), i < k → 0 ≤ Kf[i] → Bs[Kf[i].toNat]? = A[i]?)) (fun iv _ => A.length - (intOf iv).toNat)
          case atStart => exact ⟨0, Bs, Nat.zero_le _, rfl, hOb, hBb, (fun i _ h => by omega)⟩
          case round =>
            clear hOb hBb hgz
            obtain ⟨k, Bs, hk, rfl, hOb, hBb, hS⟩ := hrel
            have hgz := hBb.size
            have hkz := HI.keep hkf hBb (by have := HG.out; omega)
            have haz := HS.keep ham hBb (by have := HG.out; omega)
            by_cases hlt3 : k < A.length
            · have hkl : k < Kf.length := by have := HKl.out; omega
              obtain ⟨bk, ok, rfl, _, hck⟩ := HI.at hkz (by omega)
              obtain ⟨ba, oa, rfl, _, hca⟩ := HS.at haz (by omega)
              have c0 := hck k hkl
              have d0 := hca k hlt3
              obtain ⟨z, hz⟩ : ∃ z, Kf[k] = z := ⟨_, rfl⟩
              have HZ : Hid (Kf[k] = z) := hz
              obtain ⟨tx, htx⟩ : ∃ tx, A[k] = tx := ⟨_, rfl⟩
              have HTX : Hid (A[k] = tx) := htx
              have hlt4 := HV.out.lt z (by rw [← hz]; exact List.getElem_mem _)
              have hge4 := HV.out.each (Int.le_refl _) z (by rw [← hz]; exact List.getElem_mem _)
              rw [hz] at c0
              rw [htx] at d0
              clear hck hca hz htx hkz haz
              have i1 : 0 ≤ (k : Int) := by omega
              have i2 : (k : Int) < (A.length : Int) := by omega
              by_cases hz0 : z < 0
              · go_wp2
                go_roundw
                case rel => exact ⟨k + 1, Bs, by omega, by go_num, hOb, hBb, (by
                    intro i hi hik hiz
                    by_cases e : i = k
                    · subst e
                      rw [HZ.out] at hiz
                      omega
                    · exact hS.out i hi (by omega) hiz)⟩
                case measure => simp [intOf]; omega
              · obtain ⟨zn, rfl⟩ : ∃ zn : Nat, z = (zn : Int) := ⟨z.toNat, by omega⟩
                have hzn : zn < A.length + more.length := by omega
                have hcl := hOb.cellAt zn (by omega)
                have hbl : zn < (scells Bs).length := by rw [hOb.1]; omega
                rw [List.getElem?_eq_getElem hbl] at hcl
                obtain ⟨y, hy⟩ : ∃ y, (scells Bs)[zn] = y := ⟨_, rfl⟩
                rw [hy] at hcl
                clear hy
                have HBL : Hid (zn < Bs.length) := (by rw [scells_length] at hbl; exact hbl)
                clear hbl
                have hfz := hOb.frozenAt zn
                obtain ⟨hOb2, hg2⟩ := hOb.stored zn (.string ⟨tx.toArray⟩)
                rw [scells_set] at hOb2
                have hBb2 := hBb.grown hg2 (by have := HG.out; omega) (fun j hj => by cases hj; exact Nat.le_refl _)
                clear hg2
                have i3 : 0 ≤ (zn : Int) := by omega
                have i4 : (zn : Int) < (A.length : Int) + (more.length : Int) := by omega
                have i5 : (zn : Int) < ((A.length + more.length : Nat) : Int) := by omega
                go_wp2_with fail
                go_region
                go_wp2
                go_roundw
                case rel => exact ⟨k + 1, Bs.set zn tx, by omega, by go_num, hOb2, Below.dN hBb2 1, (by
                    intro i hi hik hiz
                    by_cases e : i = k
                    · subst e
                      rw [HZ.out, Int.toNat_natCast, List.getElem?_set_self HBL.out, List.getElem?_eq_getElem hlt3, HTX.out]
                    · have h1 := hS.out i hi (by omega) hiz
                      have h2 := vk_rise HV.out i k (by omega) hkl (by omega) (by rw [HZ.out]; omega)
                      rw [HZ.out] at h2
                      rw [List.getElem?_set_ne (by omega)]
                      exact h1)⟩
                case measure => simp [intOf]; omega
            · have hbll : Bs.length = A.length + more.length := by have := hOb.1; rw [scells_length, Nat.mul_one] at this; exact this
              obtain ⟨sx, ax, sy, ay⟩ := reach_both (K := Kf) (A := A) (B := Bs) (m := (A.length : Int) + more.length) (by omega) HKl.out HV.out (by omega) (by have := HKl.out; omega) (fun i h hz => hS.out i h (by have := HKl.out; omega) hz)
              obtain ⟨X, hX⟩ : ∃ X, mkL Kf ((A.length : Int) + more.length) = X := ⟨_, rfl⟩
              obtain ⟨Y, hY⟩ : ∃ Y, invL X = Y := ⟨_, rfl⟩
              rw [hX] at sx ax sy ay
              rw [hY] at sy ay
              have HX : Hid (mkL Kf ((A.length : Int) + more.length) = X) := hX
              have HY : Hid (invL X = Y) := hY
              have hXl : X.length ≤ 1048576 := by have := count_a sx.2.2; omega
              have hYl : Y.length ≤ 1048576 := by rw [← hY]; simp [invL]; omega
              have HSX : Hid (Script X A.length Bs.length ∧ applyL X A Bs = Bs ∧ Script Y Bs.length A.length ∧ applyL Y Bs A = A) := ⟨sx, ax, sy, ay⟩
              have hvb : HS wr (.slice (some ⟨g, 0, none⟩) (A.length + more.length) (A.length + more.length)) Bs := by
                have := holds_of hOb
                unfold HS
                rw [hbll]
                exact this
              have hbl2 : Bs.length ≤ 1048576 := by omega
              have HBL : Hid (Bs.length = A.length + more.length) := hbll
              clear hbll sx ax sy ay hX hY
              go_wp2_with fail
              refine (Make_f Kf _ X _ wr hkz (by have := HKl.out; omega) HV.out (by omega) (by omega) HX).mono ?_
              rintro e w5 ⟨v5, rfl, hx5, hB5⟩
              obtain ⟨xo, xc, rfl⟩ := Holds.form hx5
              have ha5 := HS.keep haz hB5 (Nat.le_refl _)
              have hb5 := HS.keep hvb hB5 (Nat.le_refl _)
              go_wp2_with fail
              refine (Apply_ok X A Bs _ _ _ w5 hx5 ha5 hb5 HSX.out.1 (by omega) (by omega) hXl).mono ?_
              rintro e w6 ⟨v6, rfl, hy6', hB6⟩
              have hy6 : HS w6 v6 Bs := by have h := holds_of hy6'; rw [HSX.out.2.1] at h; exact h
              clear hy6'
              obtain ⟨yo, yc, rfl⟩ := Holds.form hy6
              have ha6 := HS.keep ha5 hB6 (Nat.le_refl _)
              have hb6 := HS.keep hb5 hB6 (Nat.le_refl _)
              have hx6 := HCh.keep hx5 hB6 (Nat.le_refl _)
              go_wp2_with fail
              refine (SameS_any _ _ Bs w6 (by omega) hy6 hb6).mono ?_
              rintro e w7 ⟨rfl, hB7⟩
              have ha7 := HS.keep ha6 hB7 (Nat.le_refl _)
              have hb7 := HS.keep hb6 hB7 (Nat.le_refl _)
              have hx7 := HCh.keep hx6 hB7 (Nat.le_refl _)
              go_wp2_with fail
              refine (Invert_f X Y _ w7 hx7 hXl HY).mono ?_
              rintro e w8 ⟨v8, rfl, hi8, hB8⟩
              obtain ⟨io, ic, rfl⟩ := Holds.form hi8
              have ha8 := HS.keep ha7 hB8 (Nat.le_refl _)
              have hb8 := HS.keep hb7 hB8 (Nat.le_refl _)
              go_wp2_with fail
              refine (Apply_ok Y Bs A _ _ _ w8 hi8 hb8 ha8 HSX.out.2.2.1 (by omega) (by omega) hYl).mono ?_
              rintro e w9 ⟨v9, rfl, hz9', hB9⟩
              have hz9 : HS w9 v9 A := by have h := holds_of hz9'; rw [HSX.out.2.2.2] at h; exact h
              clear hz9'
              obtain ⟨zo, zc, rfl⟩ := Holds.form hz9
              have ha9 := HS.keep ha8 hB9 (Nat.le_refl _)
              go_wp2_with fail
              refine (SameS_any _ _ A w9 (by omega) hz9 ha9).mono ?_
              rintro e wa ⟨rfl, hBa'⟩
              have hbel : Below wr.heap.size wr wa := hB5.trans ((hB6.trans ((hB7.trans ((hB8.trans ((hB9.trans (hBa'.mono hB9.size)).mono hB8.size)).mono hB7.size)).mono hB6.size)).mono hB5.size)
              go_wp2
              go_ret
              refine ⟨rfl, hB1.trans (Below.mono (hB.trans (Below.mono (hBb.trans (hbel.mono ?_)) ?_)) hsz1)⟩
              · have := HG.out; omega
              · have := HG.out; omega

theorem contract (H : Type) (enc : TypeId × Value → H) (W : World) (base : Nat) (args : Array Value) (ds gs : List (DataW H)) (before : List MemPlace)
    (hval : ∀ (j : Nat) t v, Try.f7.params[j]? = some t → args[j]? = some v → Value.okWide Try.prog W .any base t v)
    (hW : DataW.Whole enc Try.prog Try.f7.params.toList Rows.editsReachSpec.vars false W args.toList ds gs before) (hk : Rows.uptoSmall H (ds ++ gs) = true) :
    Calls Try.prog 7 args W fun e W' => ∃ v, e = .returned v ∧ Rows.editsReachSpec.post enc Try.prog Try.f7 false true false false W args v W' := by
  have hW' := hW
  obtain ⟨p, q, hA0, hV, rfl, hfz, hnd⟩ := hW
  have hA : DataW.TrodAll enc Try.prog W 0 (fun _ => true) true Try.f7.params.toList args.toList ds p := hA0
  rw [Try.params7] at hA hval
  obtain ⟨v0, vs0, d0, ds0, p0, q0, hargs, rfl, rfl, h0, r0⟩ := trodAll_cons hA
  obtain ⟨v1, vs1, d1, ds1, p1, q1, rfl, rfl, rfl, h1, r1⟩ := trodAll_cons r0
  obtain ⟨v2, vs2, d2, ds2, p2, q2, rfl, rfl, rfl, h2, r2⟩ := trodAll_cons r1
  obtain ⟨rfl, rfl, rfl⟩ := trodAll_nil r2
  obtain rfl : args = #[v0, v1, v2] := by cases args; simp_all
  obtain ⟨rfl, rfl⟩ := trodVars_none hV
  obtain ⟨a0, len0, cap0, rfl⟩ := okWide_slice Try.underlying34 (hval 0 34 v0 rfl rfl)
  have k0 := h0
  have lt0 : ∀ x ∈ p0, x.block < W.heap.size := by obtain ⟨m, hm⟩ := k0; exact DataW.trod_lt m _ _ _ hm
  obtain ⟨a1, len1, cap1, rfl⟩ := okWide_slice Try.underlying26 (hval 1 26 v1 rfl rfl)
  have k1 := h1
  have lt1 : ∀ x ∈ p1, x.block < W.heap.size := by obtain ⟨m, hm⟩ := k1; exact DataW.trod_lt m _ _ _ hm
  obtain ⟨a2, len2, cap2, rfl⟩ := okWide_slice Try.underlying34 (hval 2 34 v2 rfl rfl)
  have k2 := h2
  have lt2 : ∀ x ∈ p2, x.block < W.heap.size := by obtain ⟨m, hm⟩ := k2; exact DataW.trod_lt m _ _ _ hm
  clear hA0
  simp only [List.append_nil] at hk
  have hbk : Rows.uptoBulkAll [d0, d1, d2] ≤ 1048576 := of_decide_eq_true hk
  simp only [Rows.uptoBulkAll] at hbk
  obtain ⟨f0, hf0⟩ := h0
  obtain ⟨ws0, hv0, hwl0⟩ := open_texts (by simpa [Value.cells] using hf0)
  obtain ⟨f1, hf1⟩ := h1
  obtain ⟨ws1, hv1, hwl1, hwf1⟩ := open_nums (by simpa [Value.cells] using hf1)
  obtain ⟨f2, hf2⟩ := h2
  obtain ⟨ws2, hv2, hwl2⟩ := open_texts (by simpa [Value.cells] using hf2)
  have hw := walk ws0 ws1 ws2 (.slice a0 len0 cap0) (.slice a1 len1 cap1) (.slice a2 len2 cap2) W (by omega) (by omega) (by omega) hv0 hv1 hv2
  refine hw.mono fun e W' ⟨he, bel⟩ => ?_
  subst he
  exact ⟨_, rfl, _, _, _, [], _, [], hW', trodAll_mk1 (shut_bool Try.underlying4 _), trodAll_cons_mk (Below.trod laidOut (by kernel_rfl) (of_decide_eq_true (by kernel_rfl)) k0 bel lt0) (trodAll_cons_mk (Below.trod laidOut (by kernel_rfl) (of_decide_eq_true (by kernel_rfl)) k1 bel lt1) (trodAll_cons_mk (Below.trod laidOut (by kernel_rfl) (of_decide_eq_true (by kernel_rfl)) k2 bel lt2) trodAll_mk0)), rfl, bel.frame _, fun h => by cases h⟩

set_option maxRecDepth 100000 in
theorem lifted (os : Os) (started : os.Started) (H : Type) (enc : TypeId × Value → H) (F : Stop.Interp) :
    ReturnsInHanded {} Try.checked os 7 .any ((Rows.OpenSpec.upto Rows.editsReachSpec).pre6 enc Try.prog Try.f7 Rows.editsReachUptoRow.domain false) (((Rows.OpenSpec.upto Rows.editsReachSpec).at F).post enc Try.prog Try.f7 false true false false) := by
  refine returnsInHanded_of_cond (C := Try.checked) (s := Rows.OpenSpec.upto Rows.editsReachSpec) (k := Rows.uptoSmall) rfl own started (by kernel_rfl) Try.func7
    (OpenSpec.witness (enc := enc) (C := Try.checked) (s := Rows.OpenSpec.upto Rows.editsReachSpec) (k := Rows.uptoSmall) rfl false ⟨#[], #[.slice none 0 0, .slice none 0 0, .slice none 0 0], []⟩ 8 (by kernel_rfl) (by kernel_rfl) (by kernel_rfl)
      (x := ([.nil, .nil, .nil], [], [])) (by kernel_rfl) rfl (by kernel_rfl)) ?_
  intro W base args ds gs before hval hW _ hk _
  exact contract H enc W base args ds gs before hval hW hk

theorem proved : Rows.EditsReachUptoSaid :=
  OpenClaim.holds_of_cond 7 Try.f7 rfl rfl rfl rfl rfl rfl rfl ⟨rfl, rfl, rfl, rfl, rfl⟩ rfl rfl rfl rfl rfl (by kernel_rfl) Try.func7 (by kernel_rfl)
    (of_decide_eq_true (by kernel_rfl)) (by unfold Func.isWrapper; first | (rw [if_pos (by decide +kernel)]; kernel_rfl) | (rw [if_neg (by decide +kernel)]; exact ⟨rfl, rfl⟩))
    (fun os started H enc _ F => lifted os started H enc F)
#print axioms proved
end Go.Proofs.Ytoacmaloiaeniaa.editsReach
