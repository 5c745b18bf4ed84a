/-
  For every text and every list of texts of together at most 1048576 letters, the law RcsfmtRuns returns true and leaves its arguments as they were: rcsfmt.Run makes what the plain reference makes, or refuses as it does, with place and reason, and shares no memory with the lines that it was handed. The conditions are the statement's own bound and the card's: errors.errorType holds what the program's text lays.
-/
import Derived.Test.YtkmgblnofapccaaDoorCards
import Derived.Test.YtkmgblnofapccaaDoorTie
import Derived.Test.YtkmgblnofapccaaDoorPartA10
import Derived.Test.YtkmgblnofapccaaDoorPartA9
import Derived.Test.YtkmgblnofapccaaDoorPartA11
import Derived.Test.YtkmgblnofapccaaDoorPartA3
import Derived.ProofKit
import Derived.OpenShut
import Derived.ShutString
import Derived.JoinedCond
import Derived.Deep.DeepHandedRow
import Derived.Lib.LaidTab
import Derived.LaidSub
namespace Go.Proofs.YtkmgblnofapccaaDoor.rcsfmtRuns
open Go.ChangeShapes Go.WideShapes Go.ChangeAt Go.RowKit
open Go.ChangeMaps (open_string shut_string)

theorem rcS_len {a r out o r2 : List (List UInt8)} {p dn d q : Nat} {s : List UInt8} {fl g : Bool} (h : rcS a p s r out dn fl = .ok (o, d, g, q, r2)) (hd : dn ≤ a.length) (ho : out.length ≤ dn + p) : o.length ≤ d + q ∧ d ≤ a.length ∧ q + r2.length = p + 1 + r.length := by
  unfold rcS at h
  cases hr : rcmF s with
  | none => rw [hr] at h; cases h
  | some x =>
    obtain ⟨ad, ah, n⟩ := x
    rw [hr] at h
    dsimp only at h
    by_cases h1 : ah < dn ∨ (ah = dn ∧ ad = true ∧ fl = true)
    · rw [if_pos h1] at h
      cases h
    · rw [if_neg h1] at h
      have hda : dn ≤ ah := (by
        rcases Nat.lt_or_ge ah dn with h | h
        · exact absurd (.inl h) h1
        · exact h)
      by_cases h2 : a.length < ah + (if ad = true then 0 else n)
      · rw [if_pos h2] at h
        cases h
      · rw [if_neg h2] at h
        by_cases h3 : ad = true
        · rw [if_pos h3] at h h2
          by_cases h4 : r.length < n
          · rw [if_pos h4] at h
            cases h
          · rw [if_neg h4] at h
            cases h
            simp only [List.length_append, List.length_take, List.length_drop]
            omega
        · rw [if_neg h3] at h h2
          cases h
          refine ⟨?_, by omega, rfl⟩
          simp only [List.length_append, List.length_take, List.length_drop]
          omega
theorem rcE_len {a : List (List UInt8)} (f : Nat) : ∀ {p dn : Nat} {ls out l : List (List UInt8)} {fl : Bool}, dn ≤ a.length → out.length ≤ dn + p → rcE a f p ls out dn fl = .ok l → l.length ≤ a.length + p + ls.length := by
  have base : ∀ {p dn : Nat} {ls out l : List (List UInt8)}, dn ≤ a.length → out.length ≤ dn + p → rcF p (out ++ a.drop dn) = .ok l → l.length ≤ a.length + p + ls.length := by
    intro p dn ls out l h1 h2 h3
    unfold rcF at h3
    split at h3
    · cases h3
      simp only [List.length_append, List.length_drop]
      omega
    · cases h3
  induction f with
  | zero => intro p dn ls out l fl h1 h2 h3; exact base h1 h2 h3
  | succ f ih =>
    intro p dn ls out l fl h1 h2 h3
    cases ls with
    | nil => exact base h1 h2 h3
    | cons s r =>
      rw [rcE] at h3
      cases hs : rcS a p s r out dn fl with
      | error e => rw [hs] at h3; cases h3
      | ok x =>
        obtain ⟨o, d, g, q, r2⟩ := x
        rw [hs] at h3
        obtain ⟨k1, k2, k3⟩ := rcS_len hs h1 h2
        have := ih k2 k1 h3
        simp only [List.length_cons]
        omega
theorem rcR_len {t : List UInt8} {a l : List (List UInt8)} (h : rcR t a = .ok l) : l.length ≤ a.length + t.length := by
  unfold rcR at h
  split at h
  · cases h
  · have h1 := rcE_len _ (Nat.zero_le _) (Nat.zero_le _) h
    have h2 := Ln.split_len t
    omega
/-- what is made, and what is refused -/
def okR (R : Except (Nat × Int) (List (List UInt8))) : List (List UInt8) := match R with
  | .error _ => []
  | .ok l => l
def faR (R : Except (Nat × Int) (List (List UInt8))) : Int × Int := match R with
  | .error (a, z) => ((a : Int), z)
  | .ok _ => (0, 0)
theorem rcRun_u (t : List UInt8) (a : List (List UInt8)) (va : Value) (w : World) (ha : HS w va a) (htl : t.length ≤ 1099511627776) (hla : a.length ≤ 137438953472) (HTA : Hid (∀ s ∈ a, s.length ≤ 1099511627776)) (R : Except (Nat × Int) (List (List UInt8))) (HR : Hid (rcR t a = R)) :
    Calls Tryd.prog 9 #[.string ⟨t.toArray⟩, va] w fun e w' => ∃ o1 c1 ev, e = .returned (.tuple #[.slice o1 (okR R).length c1, ev]) ∧ w'.ownsRow w.heap.size 9 1 (.slice o1 (okR R).length c1) (okR R).length (scells (okR R)) ∧ Below w.heap.size w w' ∧ ∀ u : World, Below w'.heap.size w' u → ErrT u → Calls Tryd.prog 11 #[ev] u fun e u' => e = .returned (.agg #[.int .i64 (faR R).1, .int .i64 (faR R).2]) ∧ Below u.heap.size u u' := by
  refine (rcRun_f t a va w ha htl hla HTA R HR).mono ?_
  intro e w' hq
  cases R with
  | error x =>
    obtain ⟨k, z⟩ := x
    obtain ⟨g, rfl, hg, hb⟩ := hq
    refine ⟨none, 0, _, rfl, World.ownsRow_nil _ _ _ _, hb, fun u hu hE => ?_⟩
    exact seen_flt g (k : Int) z u hE ((hu.block g (Array.getElem?_eq_some_iff.1 hg).1).trans hg)
  | ok l =>
    obtain ⟨v, rfl, ho, hb⟩ := hq
    obtain ⟨vo, vc, rfl⟩ := rc_form ho
    exact ⟨vo, vc, _, rfl, ho, hb, fun u _ _ => seen_nil u⟩
theorem rRRun_u (t : List UInt8) (a : List (List UInt8)) (va : Value) (w : World) (ha : HS w va a) (htl : t.length ≤ 1099511627776) (hla : a.length ≤ 137438953472) (HTA : Hid (∀ s ∈ a, s.length ≤ 1099511627776)) (R : Except (Nat × Int) (List (List UInt8))) (HR : Hid (rcR t a = R)) :
    Calls Tryd.prog 10 #[.string ⟨t.toArray⟩, va] w fun e w' => ∃ o2 c2, e = .returned (.tuple #[.slice o2 (okR R).length c2, .agg #[.int .i64 (faR R).1, .int .i64 (faR R).2]]) ∧ HS w' (.slice o2 (okR R).length c2) (okR R) ∧ Below w.heap.size w w' := by
  refine (rRRun_f t a va w ha htl hla HTA R HR).mono ?_
  intro e w' hq
  cases R with
  | error x =>
    obtain ⟨k, z⟩ := x
    obtain ⟨rfl, hb⟩ := hq
    exact ⟨none, 0, rfl, .inl ⟨rfl, rfl, rfl⟩, hb⟩
  | ok l =>
    obtain ⟨v, rfl, hH, hb⟩ := hq
    obtain ⟨vo, vc, rfl⟩ := Holds.form hH
    exact ⟨vo, vc, rfl, hH, hb⟩
theorem load_fr {u : World} {F : Nat} {a z : Int} (h0 : u.cell? ⟨F, 0, none⟩ = some (.int .i64 a)) (h1 : u.cell? ⟨F, 1, none⟩ = some (.int .i64 z)) {op : Oper} (x : Operand) (ho : op.op = .load 34 x) {ev : Operand → Value} (hx : ev x = .pointer (some ⟨F, 0, none⟩)) :
    (execOp ev op).run Tryd.prog u = .ok (.value (.agg #[.int .i64 a, .int .i64 z])) u := by
  simp only [execOp, ho, hx]
  go_simp
theorem neq_fr {u : World} {a z : Int} {op : Oper} (x y : Operand) (ho : op.op = .binOp .neq 34 x y 34) {ev : Operand → Value} (hx : ev x = .agg #[.int .i64 a, .int .i64 z]) (hy : ev y = .agg #[.int .i64 a, .int .i64 z]) :
    (execOp ev op).run Tryd.prog u = .ok (.value (.bool false)) u := by
  simp only [execOp, ho, hx, hy]
  go_simp
theorem sc_set (B : List (List UInt8)) (k : Nat) (s : List UInt8) : (scells B).set k (.string ⟨s.toArray⟩) = scells (B.set k s) := by simp [scells, List.map_set]
set_option maxRecDepth 10000 in
set_option maxHeartbeats 16000000 in
theorem walk (t : List UInt8) (a : List (List UInt8)) (va : Value) (w : World) (hl : t.length + (a.length + a.flatten.length) ≤ 1048576) (ha : HS w va a) (hE : ErrT w) :
    Calls Tryd.prog 4 #[.string ⟨t.toArray⟩, va] w fun e w' => e = .returned (.bool true) ∧ Below w.heap.size w w' := by
  have HE : Hid (ErrT w) := hE
  clear hE
  obtain ⟨ao, ac, rfl⟩ := Holds.form ha
  by_cases hbig : 200000 < t.length
  · have i1 : (200000 : Int) < (t.length : Int) := by omega
    have i2 : (t.length : Int) ≤ 1048576 := by omega
    go_enter Tryd.func4, Tryd.ntmps4
    go_wp2
    go_ret
    exact ⟨rfl, Below.refl _ _⟩
  · have i1 : ¬ (200000 : Int) < (t.length : Int) := by omega
    have HTA : Hid (∀ s ∈ a, s.length ≤ 1099511627776) := fun s hs => (by have := mem_flatE hs; omega)
    obtain ⟨X, hX⟩ : ∃ X, rcR t a = X := ⟨_, rfl⟩
    have HX : Hid (rcR t a = X) := hX
    clear hX
    have hn := fun u va (h : HS u va a) => rcRun_u t a va u h (by omega) (by omega) HTA X HX
    have hr := fun u va (h : HS u va a) => rRRun_u t a va u h (by omega) (by omega) HTA X HX
    have HLN : Hid ((okR X).length ≤ 1099511627776) := (by
      show _ ≤ _
      cases hq : X with
      | error e => simp [okR]
      | ok l =>
        have h := HX.out
        rw [hq] at h
        have := rcR_len h
        simp only [okR]
        omega)
    obtain ⟨l, hl1⟩ : ∃ l, okR X = l := ⟨_, rfl⟩
    obtain ⟨fa, hfa⟩ : ∃ a, (faR X).1 = a := ⟨_, rfl⟩
    obtain ⟨fz, hfz⟩ : ∃ z, (faR X).2 = z := ⟨_, rfl⟩
    rw [hl1, hfa, hfz] at hn
    rw [hl1, hfa, hfz] at hr
    rw [hl1] at HLN
    clear hl1 hfa hfz HX
    have hll : l.length ≤ 1099511627776 := HLN.out
    have hnil1 := nil_row_new (e := 9) (s := 1) w w.heap.size w.heap.size rfl (Nat.le_refl _)
    have hB1 : Below w.heap.size w (w.alloc (.cells #[] 9)) := (Below.refl _ w).alloc (Nat.le_refl _) _
    have hs1 := HS.keep ha hB1 (Nat.le_refl _)
    have HS1 : Hid ((w.alloc (.cells #[] 9)).heap.size = w.heap.size + 1) := (by show _ = _; simp)
    go_enter Tryd.func4, Tryd.ntmps4
    go_wp2_with (at_builtin; refine wpList_ef_append _ (by kernel_rfl) (.tmp 19) (.tmp 20) 23 9 (.string ⟨#[]⟩) 1 16 rfl Tryd.underlying23 infoStr rfl (by decide) (by decide) w.heap.size _ _ _ rfl hnil1 _ a.length (scells a) rfl hs1 (by simp [scells_length]) (scells_one _) (by omega) (by have := HS1.out; omega) ?_)
    intro v7 w1 hown1 hg1 _
    have hBw1 : Below w.heap.size w w1 := hB1.grown hg1 hB1.size (fun j hj => owns_ge hnil1 hj)
    have hv7 : HS w1 v7 a := holds_of hown1
    obtain ⟨o0, c0, rfl⟩ := Holds.form hv7
    clear hown1 hg1 hnil1 hB1 hs1 HS1
    have ha1 := HS.keep ha hBw1 (Nat.le_refl _)
    clear ha
    go_wp2_with fail
    refine (hn w1 _ hv7).mono ?_
    rintro e w2 ⟨o1, c1, ev, rfl, hox, hB12, hsn⟩
    have HSN : Hid (∀ u : World, Below w2.heap.size w2 u → ErrT u → Calls Tryd.prog 11 #[ev] u fun e u' => e = .returned (.agg #[.int .i64 fa, .int .i64 fz]) ∧ Below u.heap.size u u') := hsn
    clear hsn hn
    have ha2 := HS.keep ha1 hB12 (Nat.le_refl _)
    go_wp2_with fail
    refine (hr w2 _ ha2).mono ?_
    rintro e w3 ⟨o2, c2, rfl, hy3, hB23⟩
    have hox3 := owns_keep hox hB23
    have hBa : Below w3.heap.size w3 (w3.alloc (.cells #[.int .i64 fa, .int .i64 fz] 34)) := (Below.refl _ w3).alloc (Nat.le_refl _) _
    have hox4 := owns_keep hox3 hBa
    have hy4 := HS.keep hy3 hBa (Nat.le_refl _)
    have hfb := heap_alloc_new w3 (.cells #[.int .i64 fa, .int .i64 fz] 34)
    have hB24 := hB23.trans (hBa.mono hB23.size)
    have hB14 := hB12.trans (hB24.mono hB12.size)
    have hB04 := hBw1.trans (hB14.mono hBw1.size)
    clear hox hox3 hy3 hB23 hBa ha2 hr hB12
    go_upto_region 6 with fail
    generalize w3.alloc (.cells #[.int .i64 fa, .int .i64 fz] 34) = W at *
    generalize w3.heap.size = F at *
    have hF : ∀ u : World, Low W u → u.cell? ⟨F, 0, none⟩ = some (.int .i64 fa) ∧ u.cell? ⟨F, 1, none⟩ = some (.int .i64 fz) := (by
      intro u hu
      have h1 := (Below.block hu F (Array.getElem?_eq_some_iff.1 hfb).1).trans hfb
      exact ⟨by rw [Lib.cell_of_heap h1]; rfl, by rw [Lib.cell_of_heap h1]; rfl⟩)
    have hseen : ∀ u : World, Low W u → Calls Tryd.prog 11 (#[ev] ++ #[]) u fun e w' => ∃ x, e = .returned x ∧ Low W w' ∧ x = .agg #[.int .i64 fa, .int .i64 fz] := (by
      intro u hu
      refine (HSN.out u (hB24.trans (Below.mono hu hB24.size)) (HE.out.low (hB04.trans (Below.mono hu hB04.size)) (Nat.le_refl _))).mono ?_
      rintro e w' ⟨rfl, hb⟩
      exact ⟨_, rfl, hu.trans (hb.mono (Below.size hu)), rfl⟩)
    have hsame : ∀ u : World, Low W u → Calls Tryd.prog 8 (#[.slice o1 l.length c1, .slice o2 l.length c2] ++ #[]) u fun e w' => ∃ x, e = .returned x ∧ Low W w' ∧ x = .bool true := (by
      intro u hu
      refine (SameS_any _ _ l u (by omega) (HS.keep (holds_of hox4) hu (Nat.le_refl _)) (HS.keep hy4 hu (Nat.le_refl _))).mono ?_
      rintro e w' ⟨rfl, hb⟩
      exact ⟨_, rfl, hu.trans (hb.mono (Below.size hu)), rfl⟩)
    refine wp_region_noPanic ?_
    refine wp_region_held_drew (S := fun u => Low W u) (by kernel_rfl) (Below.dN (Below.refl _ W) 1) (fun hHeld => ?_)
    refine go_take 0 34 _ (ev) rfl (by kernel_rfl) (by kernel_rfl) (by kernel_rfl) (by kernel_rfl) (fun _ _ _ h => h) (Or.inl ⟨by kernel_rfl, fun u hu => by kernel_rfl⟩) hHeld ?_
    simp only [Act.put, List.setIfInBounds_toArray, List.set_cons_zero, List.set_cons_succ]
    refine go_take 2 36 _ (.agg #[.int .i64 fa, .int .i64 fz]) rfl (by kernel_rfl) (by kernel_rfl) (by kernel_rfl) (by kernel_rfl) (fun _ _ _ h => h) (Or.inl ⟨by kernel_rfl, fun u hu => load_fr (hF u hu).1 (hF u hu).2 (.tmp 9) (by kernel_rfl) (by kernel_rfl)⟩) hHeld ?_
    simp only [Act.put, List.setIfInBounds_toArray, List.set_cons_zero, List.set_cons_succ]
    refine go_callE 1 35 _ rfl (by kernel_rfl) (by kernel_rfl) (by kernel_rfl) 11 (.func 11) #[.tmp 34] #[30] (by kernel_rfl) #[] (by kernel_rfl) #[ev] (by kernel_rfl) (enters_of Tryd.func11 (by kernel_rfl) rfl) (fun x _ => x = .agg #[.int .i64 fa, .int .i64 fz]) ?_ ?_
    · exact hseen _ hHeld
    rintro _ u1 hHeld rfl
    simp only [Act.put, List.setIfInBounds_toArray, List.set_cons_zero, List.set_cons_succ]
    refine go_take 3 37 _ (.bool false) rfl (by kernel_rfl) (by kernel_rfl) (by kernel_rfl) (by kernel_rfl) (fun _ _ _ h => h) (Or.inl ⟨by kernel_rfl, fun u hu => neq_fr (a := fa) (z := fz) (.tmp 35) (.tmp 36) (by kernel_rfl) (by kernel_rfl) (by kernel_rfl)⟩) hHeld ?_
    simp only [Act.put, List.setIfInBounds_toArray, List.set_cons_zero, List.set_cons_succ]
    refine go_take 4 38 _ (.bool false) rfl (by kernel_rfl) (by kernel_rfl) (by kernel_rfl) (by kernel_rfl) (fun _ _ _ h => h) (Or.inl ⟨by kernel_rfl, fun u hu => by kernel_rfl⟩) hHeld ?_
    simp only [Act.put, List.setIfInBounds_toArray, List.set_cons_zero, List.set_cons_succ]
    refine go_take 5 39 _ (.slice o1 l.length c1) rfl (by kernel_rfl) (by kernel_rfl) (by kernel_rfl) (by kernel_rfl) (fun _ _ _ h => h) (Or.inl ⟨by kernel_rfl, fun u hu => by kernel_rfl⟩) hHeld ?_
    simp only [Act.put, List.setIfInBounds_toArray, List.set_cons_zero, List.set_cons_succ]
    refine go_take 6 40 _ (.slice o2 l.length c2) rfl (by kernel_rfl) (by kernel_rfl) (by kernel_rfl) (by kernel_rfl) (fun _ _ _ h => h) (Or.inl ⟨by kernel_rfl, fun u hu => by kernel_rfl⟩) hHeld ?_
    simp only [Act.put, List.setIfInBounds_toArray, List.set_cons_zero, List.set_cons_succ]
    refine go_callE 7 41 _ rfl (by kernel_rfl) (by kernel_rfl) (by kernel_rfl) 8 (.func 8) #[.tmp 39, .tmp 40] #[23, 23] (by kernel_rfl) #[] (by kernel_rfl) #[.slice o1 l.length c1, .slice o2 l.length c2] (by kernel_rfl) (enters_of Tryd.func8 (by kernel_rfl) rfl) (fun x _ => x = .bool true) ?_ ?_
    · exact hsame _ hHeld
    rintro _ u2 hHeld rfl
    simp only [Act.put, List.setIfInBounds_toArray, List.set_cons_zero, List.set_cons_succ]
    refine go_take 8 42 _ (.bool false) rfl (by kernel_rfl) (by kernel_rfl) (by kernel_rfl) (by kernel_rfl) (fun _ _ _ h => h) (Or.inl ⟨by kernel_rfl, fun u hu => by kernel_rfl⟩) hHeld ?_
    simp only [Act.put, List.setIfInBounds_toArray, List.set_cons_zero, List.set_cons_succ]
    refine go_take 9 43 _ (.bool false) rfl (by kernel_rfl) (by kernel_rfl) (by kernel_rfl) (by kernel_rfl) (fun _ _ _ h => h) (Or.inl ⟨by kernel_rfl, fun u hu => by kernel_rfl⟩) hHeld ?_
    simp only [Act.put, List.setIfInBounds_toArray, List.set_cons_zero, List.set_cons_succ]
    refine wpAnyH_done (by kernel_rfl) ?_ _
    refine NoPanic.normal ?_
    have hBu := hB04.trans (Below.mono hHeld hB04.size)
    have hB1u := hB14.trans (Below.mono hHeld hB14.size)
    have hoxu := owns_keep hox4 hHeld
    clear hF hseen hsame hfb hB24 hB14 hB04 HSN hHeld hox4 hy4
    generalize u2 = U at *
    go_wp2
    go_loopw [10] (fun iv wr => ∃ (k : Nat) (Bs : List (List UInt8)), k ≤ l.length ∧ iv = .int .i64 (k : Int) ∧ Hid (wr.ownsRow w1.heap.size 9 1 (.slice o1 l.length c1) l.length (scells Bs)) ∧ Below w1.heap.size w1 wr) (fun iv _ => l.length - (intOf iv).toNat)
    case atStart => exact ⟨0, l, Nat.zero_le _, by go_num, hoxu, hB1u⟩
    case round =>
      obtain ⟨k, Bs, hk, rfl, HOb, hB⟩ := hrel
      by_cases hlt : k < l.length
      · have hOb := HOb.out
        obtain ⟨g, hgg⟩ : ∃ g, o1 = some ⟨g, 0, none⟩ := (by
          rcases hOb.2 with ⟨h1, h2⟩ | ⟨g, cap, cur, h1, _⟩
          · omega
          · simp only [Value.slice.injEq] at h1
            exact ⟨g, h1.1⟩)
        subst hgg
        have hcl := hOb.cellAt k (by omega)
        have hbl : k < (scells Bs).length := by rw [hOb.1]; omega
        rw [List.getElem?_eq_getElem hbl] at hcl
        obtain ⟨y, hy⟩ : ∃ y, (scells Bs)[k] = .string y := (by simp [scells])
        rw [hy] at hcl
        have hfz := hOb.frozenAt k
        obtain ⟨hOb2, hg2⟩ := hOb.stored k (.string ⟨#[115, 112, 111, 105, 108, 116]⟩)
        have hB2 : Below w1.heap.size w1 _ := hB.grown hg2 hB.size (fun j hj => by cases hj; exact owns_ge hOb rfl)
        have e6 : (scells Bs).set k (.string ⟨#[115, 112, 111, 105, 108, 116]⟩) = scells (Bs.set k [115, 112, 111, 105, 108, 116]) := sc_set Bs k [115, 112, 111, 105, 108, 116]
        rw [e6] at hOb2
        have HO2 : Hid _ := hOb2
        clear hOb2 hg2 hOb HOb e6 hy hbl
        have i1 : 0 ≤ (k : Int) := by omega
        have i2 : (k : Int) < (l.length : Int) := by omega
        go_wp2
        go_roundw
        case rel => exact ⟨k + 1, _, by omega, by go_num, HO2, hB2⟩
        case measure => simp [intOf]; omega
      · have i2 : ¬ (k : Int) < (l.length : Int) := by omega
        have hBw := hBw1.trans (hB.mono hBw1.size)
        have ho5 := HS.keep hv7 hB (Nat.le_refl _)
        have ha5 := HS.keep ha1 hB (Nat.le_refl _)
        go_wp2_with fail
        refine (SameS_any _ _ a _ (by omega) ho5 ha5).mono ?_
        rintro e w7 ⟨rfl, hb7⟩
        go_wp2
        go_ret
        exact ⟨rfl, hBw.trans (hb7.mono hBw.size)⟩

set_option maxRecDepth 100000 in
theorem contract (H : Type) (enc : TypeId × Value → H) (W : World) (base : Nat) (args : Array Value) (ds gs : List (DataW H)) (before : List MemPlace)
    (hval : ∀ (j : Nat) t v, Tryd.f4.params[j]? = some t → args[j]? = some v → Value.okWide Tryd.prog W .any base t v)
    (hW : DataW.Whole enc Tryd.prog Tryd.f4.params.toList Rows.rcsfmtRunsSpec.vars false W args.toList ds gs before) (hL : laidMetH Tryd.prog Rows.rcsfmtRunsUptoRow.laid W) (hk : Rows.uptoSmall H (ds ++ gs) = true) :
    Calls Tryd.prog 4 args W fun e W' => ∃ v, e = .returned v ∧ Rows.rcsfmtRunsSpec.post enc Tryd.prog Tryd.f4 false true false false W args v W' := by
  have hW' := hW
  obtain ⟨p, q, hA0, hV, rfl, hfz, hnd⟩ := hW
  have hA : DataW.TrodAll enc Tryd.prog W 0 (fun _ => true) true Tryd.f4.params.toList args.toList ds p := hA0
  rw [Tryd.params4] at hA hval
  obtain ⟨v0, vs0, d0, ds0, p0, q0, hargs, rfl, rfl, h0, r0⟩ := trodAll_cons hA
  obtain ⟨v1, vs1, d1, ds1, p1, q1, rfl, rfl, rfl, h1, r1⟩ := trodAll_cons r0
  obtain ⟨rfl, rfl, rfl⟩ := trodAll_nil r1
  obtain rfl : args = #[v0, v1] := by cases args; simp_all
  obtain ⟨rfl, rfl⟩ := trodVars_none hV
  obtain ⟨a1, len1, cap1, rfl⟩ := okWide_slice Tryd.underlying23 (hval 1 23 v1 rfl rfl)
  have k1 := h1
  have lt1 : ∀ x ∈ p1, x.block < W.heap.size := by obtain ⟨m, hm⟩ := k1; exact DataW.trod_lt m _ _ _ hm
  obtain ⟨a0, rfl, rfl, rfl, wt0⟩ := open_string Tryd.underlying9 (hval 0 9 v0 rfl rfl) h0
  clear hA0
  simp only [List.append_nil] at hk
  have hbk : Rows.uptoBulkAll [.lit (.string a0.data.toList), d1] ≤ 1048576 := of_decide_eq_true hk
  simp only [Rows.uptoBulkAll] at hbk
  obtain ⟨f1, hf1⟩ := h1
  obtain ⟨ws1, hv1, hwl1⟩ := open_texts (by simpa [Value.cells] using hf1)
  have hw := walk a0.data.toList ws1 (.slice a1 len1 cap1) W (by simp only [Rows.uptoBulk] at hbk; omega) hv1 (Et.met Rows.rcsfmtRunsUptoRow.laid rfl hL)
  refine hw.mono fun e W' ⟨he, bel⟩ => ?_
  subst he
  exact ⟨_, rfl, _, _, _, [], _, [], hW', trodAll_mk1 (shut_bool Tryd.underlying4 _), trodAll_cons_mk (shut_string Tryd.underlying9 wt0) (trodAll_cons_mk (Below.trod laidOut (by kernel_rfl) (of_decide_eq_true (by kernel_rfl)) k1 bel lt1) trodAll_mk0), rfl, bel.frame _, fun h => by cases h⟩

theorem laid_met (os : Os) : laidMetH Tryd.prog Rows.rcsfmtRunsUptoRow.laid ((Et.laidOn (World.holding Tryd.prog os ⟨#[], #[], []⟩)).forCall (fun _ _ => 0) ⟨#[], #[.string .empty, .slice none 0 0], []⟩).memory :=
  laidMetH_of_parts (laidMet_of_run' 8 (by kernel_rfl) (by kernel_rfl)) (by kernel_rfl)
theorem reads (os : Os) {H : Type} (enc : TypeId × Value → H) : ∃ places, DataW.whole enc Tryd.prog ((Et.laidOn (World.holding Tryd.prog os ⟨#[], #[], []⟩)).forCall (fun _ _ => 0) ⟨#[], #[.string .empty, .slice none 0 0], []⟩).memory Tryd.f4.params.toList Rows.rcsfmtRunsSpec.vars false #[Value.string .empty, Value.slice none 0 0].toList 8 = some ([.lit (.string []), .nil], [], places) :=
  ⟨[], by kernel_rfl⟩

set_option maxRecDepth 100000 in
theorem lifted (os : Os) (started : os.Started) (H : Type) (enc : TypeId × Value → H) (F : Stop.Interp) :
    ReturnsInHanded {} Tryd.checked os 4 .any ((Rows.OpenSpec.upto Rows.rcsfmtRunsSpec).preRow enc Tryd.prog Tryd.f4 Rows.rcsfmtRunsUptoRow.domain false Rows.rcsfmtRunsUptoRow.laid) (((Rows.OpenSpec.upto Rows.rcsfmtRunsSpec).at F).post enc Tryd.prog Tryd.f4 false true false false) := by
  obtain ⟨places, hx⟩ := reads os enc
  refine returnsInHanded_of_row (C := Tryd.checked) (s := Rows.OpenSpec.upto Rows.rcsfmtRunsSpec) own started (by kernel_rfl) Tryd.func4
    (witness_row_at (enc := enc) (C := Tryd.checked) false (Et.laidOn (World.holding Tryd.prog os ⟨#[], #[], []⟩)) #[.string .empty, .slice none 0 0] rfl (by kernel_rfl) (by kernel_rfl) (by kernel_rfl)
      (OpenSpec.preRow_of_cond 8 hx (by kernel_rfl) (fun k hk => by cases hk; kernel_rfl) (by kernel_rfl) (laid_met os))) ?_
  intro W base args ds gs before hval hW _ hcond _ hL _ _
  exact contract H enc W base args ds gs before hval hW hL (hcond _ rfl)

theorem said : Rows.RcsfmtRunsUptoSaid :=
  OpenClaim.holds_of_cond 4 Tryd.f4 rfl rfl rfl rfl rfl rfl rfl ⟨rfl, rfl, rfl, rfl, rfl⟩ rfl rfl rfl rfl rfl (by kernel_rfl) Tryd.func4 (by kernel_rfl)
    (of_decide_eq_true (by kernel_rfl)) (by unfold Func.isWrapper; first | (rw [if_pos (by decide +kernel)]; kernel_rfl) | (rw [if_neg (by decide +kernel)]; exact ⟨rfl, rfl⟩))
    (fun os started H enc _ F => by rw [OpenClaim.pre_eq_preRow]; exact lifted os started H enc F)

theorem plain (f : FuncId) (fn : Func) (hf : Tryd.pinned.checked.prog.funcNamed "redline/redlinelaw14.RcsfmtRuns" = some f) (hfn : Tryd.pinned.checked.prog.funcs[f]? = some fn) :
    true = Tryd.pinned.checked.prog.looks [] ∧ ∀ (j : Nat) t, fn.params[j]? = some t → Tryd.pinned.checked.prog.wantsStandIn t = false := by
  obtain rfl : f = 4 := Option.some.inj ((show Tryd.prog.funcNamed "redline/redlinelaw14.RcsfmtRuns" = some 4 by kernel_rfl).symm.trans hf) |>.symm
  obtain rfl : fn = Tryd.f4 := (Option.some.inj (Tryd.func4.symm.trans hfn)).symm
  refine ⟨by kernel_rfl, fun j t ht => ?_⟩
  rw [Tryd.params4] at ht
  have hm : t = 9 ∨ t = 23 := by simpa using Array.mem_of_getElem? ht
  rcases hm with rfl | rfl
  · exact (show Tryd.prog.wantsStandIn 9 = false by kernel_rfl)
  · exact (show Tryd.prog.wantsStandIn 23 = false by kernel_rfl)

theorem card : Rows.RcsfmtRunsUptoCardSaid :=
  Claim7.holds_tied_plain_at .later [] _ _ _ _ said (fun _ h => by cases h) (by kernel_rfl) (fun _ h => by cases h) rcsfmtRunsUpto_row_tie rfl ⟨rfl, rfl⟩ (by kernel_rfl) rfl plain (by kernel_rfl)
#print axioms card
end Go.Proofs.YtkmgblnofapccaaDoor.rcsfmtRuns
