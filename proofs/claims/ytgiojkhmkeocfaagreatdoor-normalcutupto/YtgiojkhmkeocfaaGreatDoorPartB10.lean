/-
  Texts that belong together, joined: HiMp, HiGr, HiCm, HiOd, HiBm, HiBs.
-/
import Derived.Test.YtgiojkhmkeocfaaGreatDoorPartB9
import Derived.Test.YtgiojkhmkeocfaaGreatDoorPartA5
import Derived.Test.YtgiojkhmkeocfaaGreatDoorPartA4
import Derived.Maps.OwnSet
import Derived.Carry
import Derived.Test.YtgiojkhmkeocfaaGreatDoorPartB5
import Derived.Maps.OwnRows
import Derived.Maps.GroupsBeside
import Derived.Deep.CutRange
import Derived.WalkMore

/- How often each class stands: count and rarest, walked. -/
set_option maxRecDepth 20000
namespace Go.Proofs.YtgiojkhmkeocfaaGreatDoor
open Go.RowKit Go.Maps

/-- a map that tells how often each class stands -/
structure Cnt {H : Type} (D : DataW H) (t : List Int) : Prop where
  tidy : Tidy D
  at_ : ∀ c, D.atKey (.int .i64 c) (.lit (.int .i64 0)) = .lit (.int .i64 (t.count c : Nat))
theorem Cnt.nil {H : Type} : Cnt (H := H) (.map []) [] := ⟨tidy_empty, fun _ => by rw [atKey_of_not_has rfl]; rfl⟩
theorem Cnt.put {H : Type} {D : DataW H} {t : List Int} (h : Cnt D t) (a : Int) : Cnt (D.put (.int .i64 a) (.lit (.int .i64 ((t.count a : Nat) + 1)))) (t ++ [a]) := by
  have hk : WideAt.IsKeyLit (.int .i64 a) := trivial
  have hne : ∀ {g : Int}, a ≠ g → (Lit.int .i64 g) ≠ .int .i64 a := fun hg e => hg (by cases e; rfl)
  refine ⟨h.tidy.put hk _, fun c => ?_⟩
  by_cases e : a = c
  · subst e
    rw [atKey_put_same h.tidy.isMap hk, List.count_append, List.count_singleton_self]
    rfl
  · rw [atKey_put_other (hne e), h.at_, List.count_append]
    have : [a].count c = 0 := by rw [List.count_eq_zero]; simp; exact fun q => e q.symm
    rw [this, Nat.add_zero]
theorem hKeyed : Keyed Tryz.prog 3 := int_keyed Tryz.underlying3
theorem hZero (w : World) : (zeroValue 3).run Tryz.prog w = .ok (.int .i64 0) w := by kernel_rfl
theorem hKey {c : Int} (hc : w64 c) : keyOf Tryz.prog 3 (.int .i64 c) = some (.int .i64 c) := keyOf_int_mk Tryz.underlying3 (WalkArith.wf_i64 hc)
/-- such a map in memory -/
def Mc (t : List Int) (B : Nat) (w : World) : Prop := ∃ D : DataW Unit, w.ownsMap Tryz.prog 3 (plainElem Tryz.prog 3) B t.length D ∧ Cnt D t
section
variable {t : List Int} {B : Nat} {w w' : World}
theorem Mc.lt (h : Mc t B w) : B < w.heap.size := by obtain ⟨D, hm, _⟩ := h; exact hm.lt
theorem Mc.keep (h : Mc t B w) (hb : w'.heap[B]? = w.heap[B]?) : Mc t B w' := by
  obtain ⟨D, ⟨es, clock, hm, r⟩, hd⟩ := h
  exact ⟨D, ⟨es, clock, hb.trans hm, r⟩, hd⟩
theorem Mc.low (h : Mc t B w) (hb : Below w.heap.size w w') : Mc t B w' := h.keep (hb.block B h.lt)
theorem Mc.look (h : Mc t B w) {c : Int} (hc : w64 c) : (Instr.lookup 281 (.map (some B)) (.int .i64 c) false).run Tryz.prog w = .ok (.int .i64 (t.count c : Nat)) w := by
  obtain ⟨D, hm, hd⟩ := h
  obtain ⟨d, hr, e, _⟩ := hm.lookup_int hKeyed Tryz.underlying281 Tryz.underlying3 (hZero w) (hKey hc)
  rw [hd.at_] at e
  cases e
  exact hr
theorem Mc.store (h : Mc t B w) {a : Int} (ha : w64 a) (hl : t.length ≤ 1099511627776) (z : Int) (hz : z = (t.count a : Nat) + 1) :
    ∃ w', (Instr.mapUpdate 281 (.map (some B)) (.int .i64 a) (.int .i64 z)).run Tryz.prog w = .ok () w' ∧ Mc (t ++ [a]) B w' ∧ w.grownBy w' (some B) := by
  obtain ⟨D, hm, hd⟩ := h
  have hcl : t.count a ≤ t.length := List.count_le_length
  obtain ⟨w', hr, ho, ht⟩ := hm.store (val := .int .i64 z) hKeyed Tryz.underlying281 (by unfold maxLen; omega) (hKey ha) (plainElem_int Tryz.underlying3 (WalkArith.wf_i64 (by omega)))
  exact ⟨w', hr, ⟨_, by simpa using ho, by subst hz; exact hd.put a⟩, ht.grown⟩
end

set_option maxRecDepth 10000 in
set_option maxHeartbeats 1000000 in
theorem count_f (x : List Int) (v : Value) (w : World) (hx : HI w v x) (hxl : x.length ≤ 1048576) (hw : ∀ c ∈ x, w64 c) :
    Calls Tryz.prog 257 #[v] w fun e w' => ∃ B, e = .returned (.map (some B)) ∧ Mc x B w' ∧ w.heap.size ≤ B ∧ Below w.heap.size w w' := by
  obtain ⟨xo, xc, rfl⟩ := Holds.form hx
  have hmm := @run_makeMap Tryz.prog
  have HW : Hid (∀ c ∈ x, w64 c) := hw
  clear hw
  go_enter Tryz.func257, Tryz.ntmps257
  go_wp2
  go_loopw [9] (fun iv wr => ∃ (i : Nat), i ≤ x.length ∧ iv = .int .i64 i ∧ Mc (x.take i) w.heap.size wr ∧ Below w.heap.size w wr) (fun iv _ => x.length - (intOf iv).toNat)
  case atStart => exact ⟨0, Nat.zero_le _, rfl, ⟨.map [], World.ownsMap_made w _ _ _, Cnt.nil⟩, (Below.refl _ w).alloc (Nat.le_refl _) _⟩
  case round =>
    clear hmm
    obtain ⟨i, hi, rfl, hM, hB⟩ := hrel
    have hs := hB.size
    by_cases hil : i < x.length
    · obtain ⟨b, off, rfl, _, hc⟩ := HI.at (HI.keep hx hB (Nat.le_refl _)) (by omega)
      have c0 := hc i hil
      obtain ⟨z, hz⟩ : ∃ z, x[i] = z := ⟨_, rfl⟩
      rw [hz] at c0
      have hzw : w64 z := by rw [← hz]; exact HW.out _ (List.getElem_mem hil)
      have htl : (x.take i).length = i := by simp; omega
      have HT : Hid (x.take (i + 1) = x.take i ++ [z]) := (by show _ = _; rw [List.take_succ_eq_append_getElem hil, hz])
      have hlk := hM.look hzw
      obtain ⟨w2, hst, hM2, hg2⟩ := hM.store hzw (by omega) _ rfl
      have hcl : (x.take i).count z ≤ (x.take i).length := List.count_le_length
      have hB2 : Below w.heap.size w w2 := hB.grown hg2 hs (fun j hj => by cases hj; exact Nat.le_refl _)
      obtain ⟨q, hq⟩ : ∃ q, (x.take i).count z = q := ⟨_, rfl⟩
      rw [hq] at hlk hst hcl
      clear hc hz hq
      have i1 : 0 ≤ (i : Int) := by omega
      have i2 : (i : Int) < (x.length : Int) := by omega
      rw [htl] at hcl
      go_wp2
      go_roundw
      case rel => exact ⟨i + 1, by omega, by go_num, by rw [HT.out]; exact hM2, hB2⟩
      case measure => simp [intOf]; omega
    · obtain rfl : i = x.length := by omega
      rw [List.take_length] at hM
      go_wp2
      go_ret
      exact ⟨_, rfl, hM, Nat.le_refl _, hB⟩

theorem rs_le (x : List Int) (y : List Int) : ∀ l : Nat, l ≤ x.length → rs x l y ≤ x.length := by
  induction y with
  | nil => intro l h; exact h
  | cons c y ih =>
    intro l h
    rw [rs]
    refine ih _ ?_
    split
    · exact List.count_le_length
    · exact h
set_option maxRecDepth 10000 in
set_option maxHeartbeats 1000000 in
theorem rarest_f (x y : List Int) (B : Nat) (v : Value) (w : World) (hM : Mc x B w) (hy : HI w v y) (_ : x.length ≤ 1048576) (hyl : y.length ≤ 1048576) (hw : ∀ c ∈ y, w64 c) (r : Nat) (hr : Hid (rs x 0 y = r)) :
    Calls Tryz.prog 258 #[.map (some B), v] w fun e w' => e = .returned (.int .i64 (r : Int)) ∧ w = w' := by
  obtain ⟨yo, yc, rfl⟩ := Holds.form hy
  have HW : Hid (∀ c ∈ y, w64 c) := hw
  clear hw
  go_enter Tryz.func258, Tryz.ntmps258
  go_wp2
  go_loopw [5, 11] (fun lv iv wr => ∃ (i l : Nat), i ≤ y.length ∧ l ≤ x.length ∧ lv = .int .i64 l ∧ iv = .int .i64 i ∧ wr = w ∧ Hid (rs x l (y.drop i) = r)) (fun _ iv _ => y.length - (intOf iv).toNat)
  case atStart => exact ⟨0, 0, Nat.zero_le _, Nat.zero_le _, rfl, rfl, rfl, hr⟩
  case round =>
    obtain ⟨i, l, hi, hl, rfl, rfl, rfl, HR⟩ := hrel
    by_cases hil : i < y.length
    · obtain ⟨b, off, rfl, _, hc⟩ := HI.at hy (by omega)
      have c0 := hc i hil
      obtain ⟨z, hz⟩ : ∃ z, y[i] = z := ⟨_, rfl⟩
      rw [hz] at c0
      have hzw : w64 z := by rw [← hz]; exact HW.out _ (List.getElem_mem hil)
      have hlk := hM.look hzw
      have hcl : x.count z ≤ x.length := List.count_le_length
      have HR2 : Hid (rs x (if 0 < x.count z ∧ (l = 0 ∨ x.count z < l) then x.count z else l) (y.drop (i + 1)) = r) := (by
        show _ = _
        have := HR.out
        rw [List.drop_eq_getElem_cons hil, rs, hz] at this
        exact this)
      obtain ⟨q, hq⟩ : ∃ q, x.count z = q := ⟨_, rfl⟩
      rw [hq] at hlk hcl HR2
      clear hc hz hq HR
      have i1 : 0 ≤ (i : Int) := by omega
      have i2 : (i : Int) < (y.length : Int) := by omega
      by_cases h0 : 0 < q
      · have e1 : decide ((0 : Int) < (q : Int)) = true := decide_eq_true (by omega)
        by_cases h1 : l = 0
        · have e2 : ((l : Int) == 0) = true := beq_iff_eq.2 (by omega)
          have HR3 : Hid (rs x q (y.drop (i + 1)) = r) := (by
            show _ = _
            have := HR2.out
            rw [if_pos ⟨h0, .inl h1⟩] at this
            exact this)
          clear HR2 h1
          go_wp2
          go_roundw
          case rel => exact ⟨i + 1, q, by omega, hcl, rfl, by go_num, trivial, HR3⟩
          case measure => simp [intOf]; omega
        · have e2 : ((l : Int) == 0) = false := beq_eq_false_iff_ne.2 (by omega)
          by_cases h2 : q < l
          · have e3 : decide ((q : Int) < (l : Int)) = true := decide_eq_true (by omega)
            have HR3 : Hid (rs x q (y.drop (i + 1)) = r) := (by
              show _ = _
              have := HR2.out
              rw [if_pos ⟨h0, .inr h2⟩] at this
              exact this)
            clear HR2 h1
            go_wp2
            go_roundw
            case rel => exact ⟨i + 1, q, by omega, hcl, rfl, by go_num, trivial, HR3⟩
            case measure => simp [intOf]; omega
          · have e3 : decide ((q : Int) < (l : Int)) = false := decide_eq_false (by omega)
            have e4 : decide (q < l) = false := decide_eq_false h2
            have HR3 : Hid (rs x l (y.drop (i + 1)) = r) := (by
              show _ = _
              have := HR2.out
              rw [if_neg (by omega)] at this
              exact this)
            clear HR2 h1
            go_wp2
            go_roundw
            case rel => exact ⟨i + 1, l, by omega, hl, rfl, by go_num, trivial, HR3⟩
            case measure => simp [intOf]; omega
      · have e1 : decide ((0 : Int) < (q : Int)) = false := decide_eq_false (by omega)
        have e4 : decide (0 < q) = false := decide_eq_false h0
        have HR3 : Hid (rs x l (y.drop (i + 1)) = r) := (by
          show _ = _
          have := HR2.out
          rw [if_neg (by omega)] at this
          exact this)
        clear HR2
        go_wp2
        go_roundw
        case rel => exact ⟨i + 1, l, by omega, hl, rfl, by go_num, trivial, HR3⟩
        case measure => simp [intOf]; omega
    · obtain rfl : i = y.length := by omega
      have e : l = r := by
        have := HR.out
        rw [List.drop_of_length_le (Nat.le_refl _)] at this
        exact this
      subst e
      go_wp2
      go_ret
      exact ⟨rfl, rfl⟩
end Go.Proofs.YtgiojkhmkeocfaaGreatDoor

/- Where the rarest classes stand: places and partners, walked. -/
set_option maxRecDepth 20000
namespace Go.Proofs.YtgiojkhmkeocfaaGreatDoor
open Go.RowKit Go.Maps

/-- where a class stands in t, if it stands R times in x -/
def pl (x : List Int) (R : Nat) (t : List Int) (c : Int) : List Nat := if x.count c = R then (List.range t.length).filter (fun j => decide (t[j]? = some c)) else []
theorem pl_snoc (x : List Int) (R : Nat) (t : List Int) (a c : Int) : pl x R (t ++ [a]) c = if x.count a = R ∧ a = c then pl x R t c ++ [t.length] else pl x R t c := by
  unfold pl
  have hf : ((List.range t.length).filter fun j => decide ((t ++ [a])[j]? = some c)) = (List.range t.length).filter fun j => decide (t[j]? = some c) := by
    apply List.filter_congr
    intro j hj
    rw [List.mem_range] at hj
    rw [List.getElem?_append_left hj]
  by_cases h : x.count c = R
  · rw [if_pos h, if_pos h, List.length_append, List.length_singleton, List.range_succ, List.filter_append, hf]
    by_cases e : a = c
    · subst e
      rw [if_pos ⟨h, rfl⟩]
      congr 1
      simp
    · rw [if_neg (fun q => e q.2)]
      have : ([t.length].filter fun j => decide ((t ++ [a])[j]? = some c)) = [] := by simp [e]
      rw [this, List.append_nil]
  · rw [if_neg h, if_neg h]
    by_cases e : a = c
    · subst e
      rw [if_neg (fun q => h q.1)]
    · rw [if_neg (fun q => e q.2)]
theorem pl_nil (x : List Int) (R : Nat) (c : Int) : pl x R [] c = [] := by simp [pl]
theorem pl_le (x : List Int) (R : Nat) (t : List Int) (c : Int) : (pl x R t c).length ≤ t.length := by
  unfold pl
  split
  · exact Nat.le_trans (List.length_filter_le _ _) (by simp)
  · simp
theorem pl_pj (x y : List Int) (R i : Nat) (hi : i < x.length) : pl x R y x[i] = pj x y R i := by
  unfold pl pj
  rw [cnt_at (List.getElem?_eq_getElem hi), List.getElem?_eq_getElem hi]
/-- a list of places as numbers -/
def nI (l : List Nat) : List Int := l.map fun (n : Nat) => (n : Int)
theorem nI_append (a b : List Nat) : nI (a ++ b) = nI a ++ nI b := by simp [nI]
/-- a map that tells where the classes stand -/
structure Gd (D : DataW Unit) (f : Int → List Nat) : Prop where
  tidy : IsMap D
  at_ : ∀ c, D.atKey (.int .i64 c) .nil = if f c = [] then .nil else .slice (ChangeShapes.lits .i64 (nI (f c))) []
theorem lits_inj {a b : List Int} (h : ChangeShapes.lits (H := Unit) .i64 a = ChangeShapes.lits .i64 b) : a = b := by
  unfold ChangeShapes.lits at h
  exact (List.map_inj_right (fun u v huv => by cases huv; rfl)).1 h
theorem Gd.zs {D : DataW Unit} {f : Int → List Nat} (h : Gd D f) {w : World} {base : Nat} {e : TypeId} {v : Value} {zs : List Int} {c : Int} (ho : w.ownsInts base e .i64 v zs) (ha : D.atKey (.int .i64 c) .nil = rowDatum .i64 v zs) : zs = nI (f c) := by
  rw [h.at_] at ha
  rcases ho.datum (H := Unit) with ⟨h1, h2⟩ | h1
  · rw [h1] at ha
    by_cases e : f c = []
    · rw [h2, e]; rfl
    · rw [if_neg e] at ha; cases ha
  · rw [h1] at ha
    by_cases e : f c = []
    · rw [if_pos e] at ha; cases ha
    · rw [if_neg e] at ha
      injection ha with ha
      exact (lits_inj ha).symm
theorem Gd.nil (x : List Int) (R : Nat) : Gd (.map []) (pl x R []) := ⟨isMap_empty, fun c => by rw [atKey_of_not_has rfl, if_pos (pl_nil x R c)]⟩
theorem Gd.put {D : DataW Unit} {x : List Int} {R : Nat} {t : List Int} (h : Gd D (pl x R t)) {a : Int} (ha : x.count a = R) : Gd (D.put (.int .i64 a) (.slice (ChangeShapes.lits .i64 (nI (pl x R t a) ++ [(t.length : Int)])) [])) (pl x R (t ++ [a])) := by
  have hk : WideAt.IsKeyLit (.int .i64 a) := trivial
  have hne : ∀ {g : Int}, a ≠ g → (Lit.int .i64 g) ≠ .int .i64 a := fun hg e => hg (by cases e; rfl)
  refine ⟨h.tidy.put _ _, fun c => ?_⟩
  by_cases e : a = c
  · subst e
    have e2 : pl x R (t ++ [a]) a = pl x R t a ++ [t.length] := by rw [pl_snoc, if_pos ⟨ha, rfl⟩]
    rw [atKey_put_same h.tidy hk, e2, if_neg (by simp), nI_append]
    rfl
  · have e2 : pl x R (t ++ [a]) c = pl x R t c := by rw [pl_snoc, if_neg (fun q => e q.2)]
    rw [atKey_put_other (hne e), h.at_, e2]
theorem Gd.skip {D : DataW Unit} {x : List Int} {R : Nat} {t : List Int} (h : Gd D (pl x R t)) {a : Int} (ha : x.count a ≠ R) : Gd D (pl x R (t ++ [a])) := by
  refine ⟨h.tidy, fun c => ?_⟩
  have e2 : pl x R (t ++ [a]) c = pl x R t c := by rw [pl_snoc, if_neg (fun q => ha q.1)]
  rw [e2]
  exact h.at_ c
/-- such a map in memory, with rows of its own -/
def Gm (x : List Int) (R : Nat) (t : List Int) (b base : Nat) (w : World) : Prop := ∃ m D, m ≤ t.length ∧ w.ownsGroups Tryz.prog 3 base 3 .i64 b m D ∧ Gd D (pl x R t)
theorem zeroIs (w : World) : (zeroValue 71).run Tryz.prog w = .ok (.slice none 0 0) w := by kernel_rfl

set_option maxRecDepth 10000 in
set_option maxHeartbeats 2000000 in
theorem hplaces_f (x y : List Int) (R Bc : Nat) (v : Value) (w : World) (hM : Mc x Bc w) (hy : HI w v y) (hyl : y.length ≤ 1048576) (hw : ∀ c ∈ y, w64 c) :
    Calls Tryz.prog 260 #[v, .map (some Bc), .int .i64 (R : Int)] w fun e w' => e = .returned (.map (some w.heap.size)) ∧ Gm x R y w.heap.size (w.heap.size + 1) w' ∧ Below w.heap.size w w' := by
  obtain ⟨yo, yc, rfl⟩ := Holds.form hy
  have hmm := @run_makeMap Tryz.prog
  obtain ⟨i0, hi0, hz0, hz1, hz2⟩ := info_parts infoInt
  have HW : Hid (∀ c ∈ y, w64 c) := hw
  have hBc := hM.lt
  clear hw
  go_enter Tryz.func260, Tryz.ntmps260
  go_wp2
  go_loopw [13] (fun iv wr => ∃ (i : Nat), i ≤ y.length ∧ iv = .int .i64 i ∧ Gm x R (y.take i) w.heap.size (w.heap.size + 1) wr ∧ Below w.heap.size w wr ∧ w.heap.size + 1 ≤ wr.heap.size) (fun iv _ => y.length - (intOf iv).toNat)
  case atStart => exact ⟨0, Nat.zero_le _, rfl, ⟨0, _, Nat.zero_le _, World.ownsGroups_made _ _ _ _ _, Gd.nil x R⟩, (Below.refl _ w).alloc (Nat.le_refl _) _, by simp⟩
  case round =>
    clear hmm
    obtain ⟨i, hi, rfl, hG, hB, hws⟩ := hrel
    have hs := hB.size
    by_cases hil : i < y.length
    · obtain ⟨b, off, rfl, _, hc⟩ := HI.at (HI.keep hy hB (Nat.le_refl _)) (by omega)
      have c0 := hc i hil
      obtain ⟨z, hz⟩ : ∃ z, y[i] = z := ⟨_, rfl⟩
      rw [hz] at c0
      have hzw : w64 z := by rw [← hz]; exact HW.out _ (List.getElem_mem hil)
      have htl : (y.take i).length = i := by simp; omega
      have HT : Hid (y.take (i + 1) = y.take i ++ [z]) := (by show _ = _; rw [List.take_succ_eq_append_getElem hil, hz])
      have hlk := (hM.keep (hB.block Bc hBc)).look hzw
      obtain ⟨q, hq⟩ : ∃ q, x.count z = q := ⟨_, rfl⟩
      have HQ : Hid (x.count z = q) := hq
      rw [hq] at hlk
      clear hc hz hq
      have i1 : 0 ≤ (i : Int) := by omega
      have i2 : (i : Int) < (y.length : Int) := by omega
      obtain ⟨m, D, hm, hown, hgd⟩ := hG
      rw [htl] at hm
      by_cases hqR : q = R
      · subst hqR
        obtain ⟨v, zs, hrun, hat, hoi, hzl, hback⟩ := hown.at hKeyed Tryz.underlying319 (zeroIs wr) (by unfold maxLen; omega) (hKey hzw)
        have HZS : Hid (zs = nI (pl x q (y.take i) z)) := hgd.zs hoi hat
        have HGD : Hid (Gd D (pl x q (y.take i))) := hgd
        clear hgd hat
        go_wp2_with (at_builtin; refine wpList_append_own_at _ (by kernel_rfl) (.tmp 27) (.tmp 29) 71 rfl (w.heap.size + 1) 3 i0 (.int .i64 0) 1 8 Tryz.underlying71 hi0 hz0 hz1 hz2 rfl (by decide) v zs.length (zs.map (Value.int .i64)) (by kernel_rfl) (hoi.1.alloc _) ⟨wr.heap.size, 0, none⟩ 1 1 [.int .i64 (i : Int)] (by kernel_rfl) rfl (cell_one_new _ _ _) (by simp [Value.oneCell']) (by unfold maxLen; omega) (by omega) (by simp; omega) ?_)
        intro v' w1 hown' hgrow hnil hloc
        have hall := (World.grownBy_alloc wr _ _).trans hgrow
        have hoi' := hoi.appended hown' (WalkArith.wf_i64 (by omega))
        obtain ⟨w2, hst, hown2, hgrow2⟩ := hback w1 v' (zs ++ [(i : Int)]) hall hoi' (by simp; omega) (hloc.imp id (fun h => ⟨_, h, by simp⟩))
        have hB2 := hB.groups hoi hall hgrow2 hs (Nat.le_succ _) (Nat.le_refl _)
        have hG2 : Gm x q (y.take (i + 1)) w.heap.size (w.heap.size + 1) w2 := by
          refine ⟨m + 1, _, ?_, hown2, ?_⟩
          · rw [List.length_take]; omega
          · rw [hoi'.datum_pos (by simp), HT.out, HZS.out]
            have := HGD.out.put (a := z) HQ.out
            rw [htl] at this
            exact this
        have hs2 := Nat.le_trans hall.size hgrow2.size
        clear hown' hgrow hnil hloc hoi' hown2 hall hback hrun hoi hown hgrow2
        go_wp2
        go_roundw
        case rel => exact ⟨i + 1, by omega, by go_num, hG2, hB2, by omega⟩
        case measure => simp [intOf]; omega
      · have e1 : ((q : Int) == (R : Int)) = false := beq_eq_false_iff_ne.2 (by omega)
        have hG2 : Gm x R (y.take (i + 1)) w.heap.size (w.heap.size + 1) wr := by
          refine ⟨m, D, ?_, hown, ?_⟩
          · rw [List.length_take]; omega
          · rw [HT.out]
            exact hgd.skip (by rw [HQ.out]; exact hqR)
        clear hown hgd hqR
        go_wp2
        go_roundw
        case rel => exact ⟨i + 1, by omega, by go_num, hG2, hB, hws⟩
        case measure => simp [intOf]; omega
    · obtain rfl : i = y.length := by omega
      rw [List.take_length] at hG
      go_wp2
      go_ret
      exact ⟨rfl, hG, hB⟩

theorem run_makeRow {T E : TypeId} {z : Value} {bytes : Nat} (hT : Tryz.prog.underlying T = some (.slice E)) (hinfo : (Tryz.prog.info? E).map (fun i => (i.zero, i.size, i.bytes)) = some (some z, 1, bytes)) (hby : bytes ≤ 32) (n : Int) (N : Nat) (hn : n = (N : Int)) (hN : N ≤ 1099511627776) (W : World) :
    (Instr.makeSlice T (.int .i64 n) (.int .i64 n)).run Tryz.prog W = .ok (.slice (some ⟨W.heap.size, 0, none⟩) N N) (W.alloc (.cells (madeCells z.cells N) E)) := by
  subst hn
  obtain ⟨i0, hi, hz0, hzs, hz2⟩ := info_parts hinfo
  have h1 : i0.bytes * N ≤ 32 * 1099511627776 := by rw [hz2]; exact Nat.mul_le_mul hby hN
  have hr := run_make (P := Tryz.prog) W T E i0 z hT hi hz0 .i64 .i64 (N : Int) (N : Int) (by omega) (Int.le_refl _) (by
    have : ((i0.bytes * N : Nat) : Int) ≤ 281474976710656 := by omega
    rwa [Int.natCast_mul] at this) (by omega)
  simpa [hzs] using hr
theorem infoIs : (Tryz.prog.info? 71).map (fun i => (i.zero, i.size, i.bytes)) = some (some (.slice none 0 0), 1, 24) := by kernel_rfl
theorem Gm.low {x : List Int} {R : Nat} {t : List Int} {b base : Nat} {w w' : World} (h : Gm x R t b base w) (hb : Below w.heap.size w w') : Gm x R t b base w' := by
  obtain ⟨m, D, h1, h2, h3⟩ := h
  exact ⟨m, D, h1, h2.kept (low_grown hb none) (by simp) (fun _ _ _ e _ => by cases e.val.ownBlock <;> simp), h3⟩
/-- rows of places, one for each member of x -/
def Prt (x y : List Int) (R base k : Nat) (vs : List Value) (w : World) : Prop := vs.length = x.length ∧ ∀ i, i < k → ∃ v, vs[i]? = some v ∧ w.ownsInts base 3 .i64 v (nI (pj x y R i))
/-- a row of rows is written: rows of numbers stay -/
theorem ints_other {w : World} {base : Nat} {v : Value} {zs : List Int} (h : w.ownsInts base 3 .i64 v zs) {g : Nat} {cs : Array Value} {fz : Nat × Nat} (hg : w.heap[g]? = some (.cells cs 71 fz)) (j : Nat) (u : Value) : (w.setCell ⟨g, j, none⟩ u).ownsInts base 3 .i64 v zs := by
  refine h.kept (grown_set w g j u) ?_
  rcases h.1.2 with ⟨rfl, _⟩ | ⟨g', cap, cur, rfl, _, h2, _⟩
  · exact .inl rfl
  · right
    intro e
    simp [Value.ownBlock] at e
    subst e
    rw [h2] at hg
    cases hg
theorem Prt.set {x y : List Int} {R base k : Nat} {vs : List Value} {w : World} (h : Prt x y R base k vs w) (hk : k < x.length) {g : Nat} {cs : Array Value} {fz : Nat × Nat} (hg : w.heap[g]? = some (.cells cs 71 fz)) {v : Value} (hv : w.ownsInts base 3 .i64 v (nI (pj x y R k))) : Prt x y R base (k + 1) (vs.set k v) (w.setCell ⟨g, k, none⟩ v) := by
  refine ⟨by rw [List.length_set]; exact h.1, fun i hi => ?_⟩
  by_cases e : i = k
  · subst e
    exact ⟨v, List.getElem?_set_self (by rw [h.1]; exact hk), ints_other hv hg _ _⟩
  · obtain ⟨u, h1, h2⟩ := h.2 i (by omega)
    exact ⟨u, by rw [List.getElem?_set_ne (fun q => e q.symm)]; exact h1, ints_other h2 hg _ _⟩
theorem Prt.low {x y : List Int} {R base k : Nat} {vs : List Value} {w w' : World} (h : Prt x y R base k vs w) (hb : Below w.heap.size w w') : Prt x y R base k vs w' :=
  ⟨h.1, fun i hi => by obtain ⟨v, h1, h2⟩ := h.2 i hi; exact ⟨v, h1, h2.kept (low_grown hb none) (by cases v.ownBlock <;> simp)⟩⟩
set_option maxRecDepth 10000 in
set_option maxHeartbeats 2000000 in
theorem partners_f (x y : List Int) (R b base : Nat) (v : Value) (w : World) (hG : Gm x R y b base w) (hx : HI w v x) (hxl : x.length ≤ 1048576) (hyl : y.length ≤ 1048576) (hw : ∀ c ∈ x, w64 c) :
    Calls Tryz.prog 259 #[v, .map (some b)] w fun e w' => ∃ vs, e = .returned (.slice (some ⟨w.heap.size, 0, none⟩) x.length x.length) ∧ w'.ownsRow w.heap.size 71 1 (.slice (some ⟨w.heap.size, 0, none⟩) x.length x.length) x.length vs ∧ Prt x y R base x.length vs w' ∧ Below w.heap.size w w' := by
  obtain ⟨xo, xc, rfl⟩ := Holds.form hx
  have hmk := run_makeRow (T := 317) Tryz.underlying317 infoIs (by decide) (x.length : Int) x.length rfl (by omega)
  have hrow := World.ownsRow_lit (base := w.heap.size) (e := 71) (size := 1) w (madeCells #[.slice none 0 0] x.length) x.length (Nat.le_refl _) (by unfold maxLen; omega) (by rw [size_madeCells]; simp)
  have HW : Hid (∀ c ∈ x, w64 c) := hw
  clear hw
  go_enter Tryz.func259, Tryz.ntmps259
  go_wp2
  go_loopw [13] (fun iv wr => ∃ (i : Nat) (vs : List Value), i ≤ x.length ∧ iv = .int .i64 i ∧ wr.ownsRow w.heap.size 71 1 (.slice (some ⟨w.heap.size, 0, none⟩) x.length x.length) x.length vs ∧ Prt x y R base i vs wr ∧ Below w.heap.size w wr) (fun iv _ => x.length - (intOf iv).toNat)
  case atStart => exact ⟨0, _, Nat.zero_le _, rfl, hrow, ⟨by have := hrow.1; simpa using this, fun i hi => by omega⟩, (Below.refl _ w).alloc (Nat.le_refl _) _⟩
  case round =>
    clear hmk hrow
    obtain ⟨i, vs, hi, rfl, hO, hP, hB⟩ := hrel
    have hs := hB.size
    by_cases hil : i < x.length
    · obtain ⟨bx, off, rfl, _, hc⟩ := HI.at (HI.keep hx hB (Nat.le_refl _)) (by omega)
      have c0 := hc i hil
      have hzw : w64 x[i] := HW.out _ (List.getElem_mem hil)
      obtain ⟨m, D, hm, hown, hgd⟩ := hG
      have hown2 := hown.kept (low_grown hB none) (by simp) (fun _ _ _ e _ => by cases e.val.ownBlock <;> simp)
      obtain ⟨v2, zs2, hrun, hat2, hoi2, hzl2, _⟩ := hown2.at hKeyed Tryz.underlying319 (zeroIs wr) (by unfold maxLen; omega) (hKey hzw)
      have hzs := hgd.zs hoi2 hat2
      rw [pl_pj x y R i hil] at hzs
      rw [hzs] at hoi2
      obtain ⟨z, hz⟩ : ∃ z, x[i] = z := ⟨_, rfl⟩
      rw [hz] at c0 hrun
      obtain ⟨so, sc, rfl⟩ := (holds_of hoi2.1).form
      obtain ⟨cs, hcs⟩ : ∃ cs, wr.heap[w.heap.size]? = some (.cells cs 71 (0, 0)) := by
        rcases hO.2 with ⟨h, _⟩ | ⟨g', cap, cur, h, _, h2, _⟩
        · cases h
        · cases h; exact ⟨_, h2⟩
      have hvl := hP.1
      have y0 := hO.cellAt i (by omega)
      rw [List.getElem?_eq_getElem (by omega)] at y0
      have f0 := hO.frozenAt i
      obtain ⟨p1, g1⟩ := hO.stored i (.slice so (nI (pj x y R i)).length sc)
      have hP2 := hP.set hil hcs hoi2
      have hB' : Below w.heap.size w (wr.setCell ⟨w.heap.size, i, none⟩ (.slice so (nI (pj x y R i)).length sc)) := hB.grown g1 hs (fun j hj => owns_ge hO (by simpa [Value.ownBlock] using hj))
      obtain ⟨n2, hn2⟩ : ∃ n, (nI (pj x y R i)).length = n := ⟨_, rfl⟩
      rw [hn2] at hrun p1 hP2 hB'
      clear hc hz hat2 hoi2 hzs hown hown2 hgd hm hO hP hcs g1
      have i1 : 0 ≤ (i : Int) := by omega
      have i2 : (i : Int) < (x.length : Int) := by omega
      generalize vs[i] = old at y0
      go_wp2
      go_roundw
      case rel => exact ⟨i + 1, _, by omega, by go_num, p1, hP2, hB'⟩
      case measure => simp [intOf]; omega
    · obtain rfl : i = x.length := by omega
      go_wp2
      go_ret
      exact ⟨vs, rfl, hO, hP, hB⟩
end Go.Proofs.YtgiojkhmkeocfaaGreatDoor

/- Small functions of the layer histogram: same, cmp.Compare, cmp.Or, outdoes, walked. -/
set_option maxRecDepth 20000
namespace Go.Proofs.YtgiojkhmkeocfaaGreatDoor
open Go.RowKit

set_option maxRecDepth 10000 in
set_option maxHeartbeats 2000000 in
theorem same_f (x y : List Int) (vx vy : Value) (w : World) (hx : HI w vx x) (hy : HI w vy y) (hxl : x.length ≤ 1048576) (r : Nat) (hr : Hid (fr x y = r)) :
    Calls Tryz.prog 261 #[vx, vy] w fun e w' => e = .returned (.int .i64 (r : Int)) ∧ Below w.heap.size w w' := by
  obtain ⟨xo, xc, rfl⟩ := Holds.form hx
  obtain ⟨yo, yc, rfl⟩ := Holds.form hy
  have HF0 : Hid (fr (x.drop 0) (y.drop 0) + 0 = r) := hr
  go_enter Tryz.func261, Tryz.ntmps261
  go_wp2
  go_loopw [5] (fun iv wr => ∃ k : Nat, k ≤ x.length ∧ k ≤ y.length ∧ iv = .int .i64 k ∧ Below w.heap.size w wr ∧ Hid (fr (x.drop k) (y.drop k) + k = r)) (fun iv _ => x.length - (intOf iv).toNat)
  case atStart => exact ⟨0, Nat.zero_le _, Nat.zero_le _, rfl, Below.refl _ _, HF0⟩
  case round =>
    clear HF0
    obtain ⟨k, hkx, hky, rfl, hBr, HF⟩ := hrel
    obtain ⟨q, hq⟩ : ∃ q, decide (k < x.length ∧ k < y.length ∧ x[k]? = y[k]?) = q := ⟨_, rfl⟩
    have HQ : Hid (decide (k < x.length ∧ k < y.length ∧ x[k]? = y[k]?) = q) := hq
    clear hq
    have i1 : 0 ≤ (k : Int) := by omega
    go_wp2_with fail
    go_cut [26] from 6 to 28 (fun z wz => z = .bool q ∧ ∃ m, wz = wr.drewN m)
    case first =>
      by_cases h3 : k < x.length
      · have e7 : decide ((k : Int) < (x.length : Int)) = true := decide_eq_true (by omega)
        by_cases h4 : k < y.length
        · have e8 : decide ((k : Int) < (y.length : Int)) = true := decide_eq_true (by omega)
          obtain ⟨xb, xf, rfl, _, hcx⟩ := HI.at (HI.keep hx hBr (Nat.le_refl _)) (by omega)
          obtain ⟨yb, yf, rfl, _, hcy⟩ := HI.at (HI.keep hy hBr (Nat.le_refl _)) (by omega)
          have x0 := hcx k (by omega)
          have y0 := hcy k (by omega)
          obtain ⟨zx, hzx⟩ : ∃ z, x[k] = z := ⟨_, rfl⟩
          obtain ⟨zy, hzy⟩ : ∃ z, y[k] = z := ⟨_, rfl⟩
          rw [hzx] at x0
          rw [hzy] at y0
          have i2 : (k : Int) < (x.length : Int) := by omega
          have i3 : (k : Int) < (y.length : Int) := by omega
          have e9 : (zx == zy) = q := by
            rw [← HQ.out, List.getElem?_eq_getElem h3, List.getElem?_eq_getElem h4, hzx, hzy]
            by_cases q : zx = zy <;> simp [h3, h4, q]
          clear hcx hcy hzx hzy HQ
          go_big_quiet (fail)
          go_wp2
          go_meet
          case rel => exact ⟨rfl, _, rfl⟩
        · have e8 : decide ((k : Int) < (y.length : Int)) = false := decide_eq_false (by omega)
          obtain rfl : q = false := by rw [← HQ.out]; simp [h4]
          go_big_quiet (fail)
          go_wp2
          go_meet
          case rel => exact ⟨rfl, _, rfl⟩
      · have e7 : decide ((k : Int) < (x.length : Int)) = false := decide_eq_false (by omega)
        obtain rfl : q = false := by rw [← HQ.out]; simp [h3]
        go_big_quiet (fail)
        go_wp2
        go_meet
        case rel => exact ⟨rfl, _, rfl⟩
    case rest =>
      obtain ⟨rfl, mq, rfl⟩ := hcut
      have hBq := Below.dN hBr mq
      clear hBr
      generalize wr.drewN mq = wq at hBq ⊢
      cases q with
      | true =>
        obtain ⟨h3, h4, h5⟩ := of_decide_eq_true HQ.out
        have HF2 : Hid (fr (x.drop (k + 1)) (y.drop (k + 1)) + (k + 1) = r) := (by
          show _ = _
          rw [← HF.out, fr_step x y k h3 h4, if_pos (by rw [List.getElem?_eq_getElem h3, List.getElem?_eq_getElem h4] at h5; simpa using h5)]
          omega)
        clear HF HQ
        go_wp2
        go_roundw
        case rel => exact ⟨k + 1, by omega, by omega, by go_num, hBq, HF2⟩
        case measure => simp [intOf]; omega
      | false =>
        have hk : k = r := by
          have h3 := of_decide_eq_false HQ.out
          rw [← HF.out]
          by_cases hx' : k < x.length
          · by_cases hy' : k < y.length
            · rw [fr_step x y k hx' hy', if_neg (fun e => h3 ⟨hx', hy', by rw [List.getElem?_eq_getElem hx', List.getElem?_eq_getElem hy', e]⟩)]
              omega
            · rw [List.drop_of_length_le (l := y) (by omega)]
              cases x.drop k <;> simp [fr]
          · rw [List.drop_of_length_le (l := x) (by omega)]
            simp [fr]
        subst hk
        clear HF HQ
        go_wp2
        go_ret
        exact ⟨rfl, hBq⟩

/-- how two numbers stand to one another -/
def cmpI (a b : Int) : Int := if a < b then -1 else if b < a then 1 else 0
theorem isNaN_f (a : Int) (w : World) : Calls Tryz.prog 299 #[.int .i64 a] w fun e w' => e = .returned (.bool false) ∧ w = w' := by
  go_enter Tryz.func299, Tryz.ntmps299
  go_wp2
  go_ret
  exact ⟨by first | rfl | (simp; done), rfl⟩
theorem Compare_f (a b r : Int) (w : World) (hr : Hid (cmpI a b = r)) : Calls Tryz.prog 284 #[.int .i64 a, .int .i64 b] w fun e w' => e = .returned (.int .i64 r) ∧ w = w' := by
  go_enter Tryz.func284, Tryz.ntmps284
  go_wp2_with fail
  refine (isNaN_f a w).mono ?_
  rintro e w1 ⟨rfl, rfl⟩
  go_wp2_with fail
  refine (isNaN_f b w).mono ?_
  rintro e w1 ⟨rfl, rfl⟩
  by_cases h1 : a < b
  · obtain rfl : -1 = r := by rw [← hr.out, cmpI, if_pos h1]
    go_wp2
    go_ret
    exact ⟨rfl, rfl⟩
  · by_cases h2 : b < a
    · obtain rfl : 1 = r := by rw [← hr.out, cmpI, if_neg h1, if_pos h2]
      go_wp2
      go_ret
      exact ⟨rfl, rfl⟩
    · obtain rfl : 0 = r := by rw [← hr.out, cmpI, if_neg h1, if_neg h2]
      go_wp2
      go_ret
      exact ⟨rfl, rfl⟩
/-- the first that is not nought -/
def orL : List Int → Int
  | [] => 0
  | a :: l => if a = 0 then orL l else a
set_option maxHeartbeats 1000000 in
theorem Or_f (l : List Int) (v : Value) (w : World) (hl : HI w v l) (hll : l.length ≤ 1048576) (r : Int) (hr : Hid (orL l = r)) : Calls Tryz.prog 283 #[v] w fun e w' => e = .returned (.int .i64 r) ∧ w = w' := by
  obtain ⟨lo, lc, rfl⟩ := Holds.form hl
  go_enter Tryz.func283, Tryz.ntmps283
  go_wp2
  go_loopw [8] (fun iv wr => ∃ k : Nat, k ≤ l.length ∧ iv = .int .i64 k ∧ wr = w ∧ Hid (orL (l.drop k) = r)) (fun iv _ => l.length - (intOf iv).toNat)
  case atStart => exact ⟨0, Nat.zero_le _, rfl, rfl, hr⟩
  case round =>
    obtain ⟨k, hk, rfl, rfl, HR⟩ := hrel
    by_cases hlt : k < l.length
    · obtain ⟨b, off, rfl, _, hc⟩ := HI.at hl (by omega)
      have c0 := hc k hlt
      obtain ⟨z, hz⟩ : ∃ z, l[k] = z := ⟨_, rfl⟩
      rw [hz] at c0
      have HR2 : Hid ((if z = 0 then orL (l.drop (k + 1)) else z) = r) := (by
        show _ = _
        have := HR.out
        rw [List.drop_eq_getElem_cons hlt, orL, hz] at this
        exact this)
      clear hc hz HR
      have i1 : 0 ≤ (k : Int) := by omega
      have i2 : (k : Int) < (l.length : Int) := by omega
      by_cases h0 : z = 0
      · have e1 : (z != 0) = false := by simp [h0]
        have HR3 : Hid (orL (l.drop (k + 1)) = r) := (by
          show _ = _
          have := HR2.out
          rw [if_pos h0] at this
          exact this)
        clear HR2 h0
        go_wp2
        go_roundw
        case rel => exact ⟨k + 1, by omega, by go_num, trivial, HR3⟩
        case measure => simp [intOf]; omega
      · have e1 : (z != 0) = true := by simp [h0]
        obtain rfl : z = r := by
          have := HR2.out
          rw [if_neg h0] at this
          exact this
        clear HR2 h0
        go_wp2
        go_ret
        exact ⟨rfl, rfl⟩
    · obtain rfl : k = l.length := by omega
      obtain rfl : 0 = r := by
        rw [← HR.out, List.drop_of_length_le (Nat.le_refl _)]
        rfl
      go_wp2
      go_ret
      exact ⟨rfl, rfl⟩
theorem cmp_lt {a b : Nat} (h : a < b) : cmpI a b = -1 := by unfold cmpI; rw [if_pos (by omega)]
theorem cmp_gt {a b : Nat} (h : b < a) : cmpI a b = 1 := by unfold cmpI; rw [if_neg (by omega), if_pos (by omega)]
theorem cmp_eq {a b : Nat} (h : a = b) : cmpI a b = 0 := by unfold cmpI; rw [if_neg (by omega), if_neg (by omega)]
theorem or_bt (r b : Hr) : decide (0 < orL [cmpI r.N b.N, cmpI b.X r.X, cmpI b.Y r.Y]) = btC r b := by
  unfold btC
  rcases Nat.lt_trichotomy r.N b.N with h | h | h
  · rw [cmp_lt h]
    simp [orL]
    omega
  · rcases Nat.lt_trichotomy b.X r.X with h2 | h2 | h2
    · rw [cmp_eq h, cmp_lt h2]
      simp [orL]
      omega
    · rcases Nat.lt_trichotomy b.Y r.Y with h3 | h3 | h3
      · rw [cmp_eq h, cmp_eq h2, cmp_lt h3]
        simp [orL]
        omega
      · rw [cmp_eq h, cmp_eq h2, cmp_eq h3]
        simp [orL]
        omega
      · rw [cmp_eq h, cmp_eq h2, cmp_gt h3]
        simp [orL, h, h2, h3]
    · rw [cmp_eq h, cmp_gt h2]
      simp [orL, h, h2]
  · rw [cmp_gt h]
    simp [orL, h]
end Go.Proofs.YtgiojkhmkeocfaaGreatDoor

/- Whether a run is rather held on to: outdoes, walked. -/
set_option maxRecDepth 20000
namespace Go.Proofs.YtgiojkhmkeocfaaGreatDoor
open Go.RowKit

/-- a run as a value, and in a box -/
def hrV (r : Hr) : Value := .agg #[.int .i64 (r.X : Int), .int .i64 (r.Y : Int), .int .i64 (r.N : Int), .int .i64 (r.R : Int)]
def Hbx (u : World) (B : Nat) (r : Hr) : Prop := u.heap[B]? = some (.cells #[.int .i64 (r.X : Int), .int .i64 (r.Y : Int), .int .i64 (r.N : Int), .int .i64 (r.R : Int)] 286 (0, 0))
section
variable {u u' : World} {B : Nat} {r : Hr}
theorem Hbx.cells (h : Hbx u B r) : u.cell? ⟨B, 0, none⟩ = some (.int .i64 (r.X : Int)) ∧ u.cell? ⟨B, 1, none⟩ = some (.int .i64 (r.Y : Int)) ∧ u.cell? ⟨B, 2, none⟩ = some (.int .i64 (r.N : Int)) ∧ u.cell? ⟨B, 3, none⟩ = some (.int .i64 (r.R : Int)) := by
  refine ⟨?_, ?_, ?_, ?_⟩ <;> rw [Lib.cell_of_heap h] <;> rfl
theorem Hbx.frozen (h : Hbx u B r) (j : Nat) : u.frozen? ⟨B, j, none⟩ = false := by
  unfold World.frozen?
  rw [h]
  rfl
theorem Hbx.lt (h : Hbx u B r) : B < u.heap.size := (Array.getElem?_eq_some_iff.1 h).1
theorem Hbx.keep (h : Hbx u B r) {g : Option Nat} (hg : u.grownBy u' g) (hr : some B ≠ g) : Hbx u' B r := (hg.block B h.lt hr).trans h
theorem Hbx.low (h : Hbx u B r) (hg : Below u.heap.size u u') : Hbx u' B r := (hg.block B h.lt).trans h
theorem Hbx.new (w : World) (r : Hr) : Hbx (w.alloc (.cells #[.int .i64 (r.X : Int), .int .i64 (r.Y : Int), .int .i64 (r.N : Int), .int .i64 (r.R : Int)] 286)) w.heap.size r := _root_.Go.heap_alloc_new w _
end
theorem compare_held {a b r : Int} {W u : World} (hr : Hid (cmpI a b = r)) (hL : Low W u) : Calls Tryz.prog 284 (#[.int .i64 a, .int .i64 b] ++ #[]) u fun e w' => ∃ v, e = .returned v ∧ Low W w' ∧ v = .int .i64 r := by
  refine (Compare_f a b r u hr).mono ?_
  rintro e w' ⟨rfl, rfl⟩
  exact ⟨_, rfl, hL, rfl⟩
theorem or_held (l : List Int) {v : Value} {W u : World} (hl : HI u v l) (hll : l.length ≤ 1048576) {r : Int} (hr : Hid (orL l = r)) (hL : Low W u) : Calls Tryz.prog 283 (#[v] ++ #[]) u fun e w' => ∃ v, e = .returned v ∧ Low W w' ∧ v = .int .i64 r := by
  refine (Or_f l v u hl hll r hr).mono ?_
  rintro e w' ⟨rfl, rfl⟩
  exact ⟨_, rfl, hL, rfl⟩

set_option maxRecDepth 10000 in
set_option maxHeartbeats 4000000 in
theorem outdoes_f (r b : Hr) (q : Bool) (w : World) (hq : Hid (btC r b = q)) :
    Calls Tryz.prog 262 #[hrV r, hrV b] w fun e w' => e = .returned (.bool q) ∧ Below w.heap.size w w' := by
  unfold hrV
  obtain ⟨z1, h1⟩ : ∃ z, cmpI r.N b.N = z := ⟨_, rfl⟩
  obtain ⟨z2, h2⟩ : ∃ z, cmpI b.X r.X = z := ⟨_, rfl⟩
  obtain ⟨z3, h3⟩ : ∃ z, cmpI b.Y r.Y = z := ⟨_, rfl⟩
  obtain ⟨z4, h4⟩ : ∃ z, orL [z1, z2, z3] = z := ⟨_, rfl⟩
  have HQ : Hid (decide (0 < z4) = q) := (by show _ = _; rw [← hq.out, ← or_bt, h1, h2, h3, h4])
  have H1 : Hid (cmpI r.N b.N = z1) := h1
  have H2 : Hid (cmpI b.X r.X = z2) := h2
  have H3 : Hid (cmpI b.Y r.Y = z3) := h3
  have H4 : Hid (orL [z1, z2, z3] = z4) := h4
  clear h1 h2 h3 h4 hq
  have hb1 := (Hbx.new w r).low ((Below.refl _ _).alloc (Nat.le_refl _) (.cells #[.int .i64 (b.X : Int), .int .i64 (b.Y : Int), .int .i64 (b.N : Int), .int .i64 (b.R : Int)] 286))
  have hb2 : Hbx ((w.alloc (.cells #[.int .i64 (r.X : Int), .int .i64 (r.Y : Int), .int .i64 (r.N : Int), .int .i64 (r.R : Int)] 286)).alloc (.cells #[.int .i64 (b.X : Int), .int .i64 (b.Y : Int), .int .i64 (b.N : Int), .int .i64 (b.R : Int)] 286)) (w.heap.size + 1) b := alloc_second w _ _
  have hB : Below w.heap.size w ((w.alloc (.cells #[.int .i64 (r.X : Int), .int .i64 (r.Y : Int), .int .i64 (r.N : Int), .int .i64 (r.R : Int)] 286)).alloc (.cells #[.int .i64 (b.X : Int), .int .i64 (b.Y : Int), .int .i64 (b.N : Int), .int .i64 (b.R : Int)] 286)) := ((Below.refl _ w).alloc (Nat.le_refl _) _).alloc (by simp) _
  obtain ⟨W, hW⟩ : ∃ W, (w.alloc (.cells #[.int .i64 (r.X : Int), .int .i64 (r.Y : Int), .int .i64 (r.N : Int), .int .i64 (r.R : Int)] 286)).alloc (.cells #[.int .i64 (b.X : Int), .int .i64 (b.Y : Int), .int .i64 (b.N : Int), .int .i64 (b.R : Int)] 286) = W := ⟨_, rfl⟩
  rw [hW] at hb1 hb2 hB
  have hcs : ∀ u : World, Low W u → (u.cell? ⟨w.heap.size, 0, none⟩ = some (.int .i64 (r.X : Int)) ∧ u.cell? ⟨w.heap.size, 1, none⟩ = some (.int .i64 (r.Y : Int)) ∧ u.cell? ⟨w.heap.size, 2, none⟩ = some (.int .i64 (r.N : Int))) ∧ u.cell? ⟨w.heap.size + 1, 0, none⟩ = some (.int .i64 (b.X : Int)) ∧ u.cell? ⟨w.heap.size + 1, 1, none⟩ = some (.int .i64 (b.Y : Int)) ∧ u.cell? ⟨w.heap.size + 1, 2, none⟩ = some (.int .i64 (b.N : Int)) := fun u hu => by
    obtain ⟨t0, t1, t2, _⟩ := (hb1.low hu).cells
    obtain ⟨t4, t5, t6, _⟩ := (hb2.low hu).cells
    exact ⟨⟨t0, t1, t2⟩, t4, t5, t6⟩
  go_enter Tryz.func262, Tryz.ntmps262
  go_wp2_with fail
  clear hW
  refine wp_region_noPanic ?_
  refine wp_region_held_drew (S := fun u => Low W u) (by kernel_rfl) (Below.dN (Below.refl _ W) 1) (fun hHeld => ?_)
  refine go_take 0 5 _ (.pointer (some ⟨w.heap.size, 2, none⟩)) rfl (by kernel_rfl) (by kernel_rfl) (by kernel_rfl) (by kernel_rfl) (fun _ _ _ h => h) (Or.inl ⟨by kernel_rfl, fun u hu => by kernel_rfl⟩) hHeld ?_
  simp only [Act.put, List.setIfInBounds_toArray, List.set_cons_zero, List.set_cons_succ]
  refine go_take 1 6 _ (.int .i64 (r.N : Int)) rfl (by kernel_rfl) (by kernel_rfl) (by kernel_rfl) (by kernel_rfl) (fun _ _ _ h => h) (Or.inl ⟨by kernel_rfl, fun u hu => load_int (hcs u hu).1.2.2 (.tmp 5) (by kernel_rfl) (by kernel_rfl)⟩) hHeld ?_
  simp only [Act.put, List.setIfInBounds_toArray, List.set_cons_zero, List.set_cons_succ]
  refine go_take 2 7 _ (.pointer (some ⟨w.heap.size + 1, 2, none⟩)) rfl (by kernel_rfl) (by kernel_rfl) (by kernel_rfl) (by kernel_rfl) (fun _ _ _ h => h) (Or.inl ⟨by kernel_rfl, fun u hu => by kernel_rfl⟩) hHeld ?_
  simp only [Act.put, List.setIfInBounds_toArray, List.set_cons_zero, List.set_cons_succ]
  refine go_take 3 8 _ (.int .i64 (b.N : Int)) rfl (by kernel_rfl) (by kernel_rfl) (by kernel_rfl) (by kernel_rfl) (fun _ _ _ h => h) (Or.inl ⟨by kernel_rfl, fun u hu => load_int (hcs u hu).2.2.2 (.tmp 7) (by kernel_rfl) (by kernel_rfl)⟩) hHeld ?_
  simp only [Act.put, List.setIfInBounds_toArray, List.set_cons_zero, List.set_cons_succ]
  refine go_take 5 10 _ (.pointer (some ⟨w.heap.size + 1, 0, none⟩)) rfl (by kernel_rfl) (by kernel_rfl) (by kernel_rfl) (by kernel_rfl) (fun _ _ _ h => h) (Or.inl ⟨by kernel_rfl, fun u hu => by kernel_rfl⟩) hHeld ?_
  simp only [Act.put, List.setIfInBounds_toArray, List.set_cons_zero, List.set_cons_succ]
  refine go_take 6 11 _ (.int .i64 (b.X : Int)) rfl (by kernel_rfl) (by kernel_rfl) (by kernel_rfl) (by kernel_rfl) (fun _ _ _ h => h) (Or.inl ⟨by kernel_rfl, fun u hu => load_int (hcs u hu).2.1 (.tmp 10) (by kernel_rfl) (by kernel_rfl)⟩) hHeld ?_
  simp only [Act.put, List.setIfInBounds_toArray, List.set_cons_zero, List.set_cons_succ]
  refine go_take 7 12 _ (.pointer (some ⟨w.heap.size, 0, none⟩)) rfl (by kernel_rfl) (by kernel_rfl) (by kernel_rfl) (by kernel_rfl) (fun _ _ _ h => h) (Or.inl ⟨by kernel_rfl, fun u hu => by kernel_rfl⟩) hHeld ?_
  simp only [Act.put, List.setIfInBounds_toArray, List.set_cons_zero, List.set_cons_succ]
  refine go_take 8 13 _ (.int .i64 (r.X : Int)) rfl (by kernel_rfl) (by kernel_rfl) (by kernel_rfl) (by kernel_rfl) (fun _ _ _ h => h) (Or.inl ⟨by kernel_rfl, fun u hu => load_int (hcs u hu).1.1 (.tmp 12) (by kernel_rfl) (by kernel_rfl)⟩) hHeld ?_
  simp only [Act.put, List.setIfInBounds_toArray, List.set_cons_zero, List.set_cons_succ]
  refine go_take 10 15 _ (.pointer (some ⟨w.heap.size + 1, 1, none⟩)) rfl (by kernel_rfl) (by kernel_rfl) (by kernel_rfl) (by kernel_rfl) (fun _ _ _ h => h) (Or.inl ⟨by kernel_rfl, fun u hu => by kernel_rfl⟩) hHeld ?_
  simp only [Act.put, List.setIfInBounds_toArray, List.set_cons_zero, List.set_cons_succ]
  refine go_take 11 16 _ (.int .i64 (b.Y : Int)) rfl (by kernel_rfl) (by kernel_rfl) (by kernel_rfl) (by kernel_rfl) (fun _ _ _ h => h) (Or.inl ⟨by kernel_rfl, fun u hu => load_int (hcs u hu).2.2.1 (.tmp 15) (by kernel_rfl) (by kernel_rfl)⟩) hHeld ?_
  simp only [Act.put, List.setIfInBounds_toArray, List.set_cons_zero, List.set_cons_succ]
  refine go_take 12 17 _ (.pointer (some ⟨w.heap.size, 1, none⟩)) rfl (by kernel_rfl) (by kernel_rfl) (by kernel_rfl) (by kernel_rfl) (fun _ _ _ h => h) (Or.inl ⟨by kernel_rfl, fun u hu => by kernel_rfl⟩) hHeld ?_
  simp only [Act.put, List.setIfInBounds_toArray, List.set_cons_zero, List.set_cons_succ]
  refine go_take 13 18 _ (.int .i64 (r.Y : Int)) rfl (by kernel_rfl) (by kernel_rfl) (by kernel_rfl) (by kernel_rfl) (fun _ _ _ h => h) (Or.inl ⟨by kernel_rfl, fun u hu => load_int (hcs u hu).1.2.1 (.tmp 17) (by kernel_rfl) (by kernel_rfl)⟩) hHeld ?_
  simp only [Act.put, List.setIfInBounds_toArray, List.set_cons_zero, List.set_cons_succ]
  refine go_callE 4 9 _ rfl (by kernel_rfl) (by kernel_rfl) (by kernel_rfl) 284 (.func 284) #[.tmp 6, .tmp 8] #[3, 3] (by kernel_rfl) #[] (by kernel_rfl) #[.int .i64 (r.N : Int), .int .i64 (b.N : Int)] (by kernel_rfl) (enters_of Tryz.func284 (by kernel_rfl) rfl) _ (compare_held H1 hHeld) ?_
  rintro _ u4 hHeld rfl
  simp only [Act.put, List.setIfInBounds_toArray, List.set_cons_zero, List.set_cons_succ]
  refine go_callE 9 14 _ rfl (by kernel_rfl) (by kernel_rfl) (by kernel_rfl) 284 (.func 284) #[.tmp 11, .tmp 13] #[3, 3] (by kernel_rfl) #[] (by kernel_rfl) #[.int .i64 (b.X : Int), .int .i64 (r.X : Int)] (by kernel_rfl) (enters_of Tryz.func284 (by kernel_rfl) rfl) _ (compare_held H2 hHeld) ?_
  rintro _ u9 hHeld rfl
  simp only [Act.put, List.setIfInBounds_toArray, List.set_cons_zero, List.set_cons_succ]
  refine go_callE 14 19 _ rfl (by kernel_rfl) (by kernel_rfl) (by kernel_rfl) 284 (.func 284) #[.tmp 16, .tmp 18] #[3, 3] (by kernel_rfl) #[] (by kernel_rfl) #[.int .i64 (b.Y : Int), .int .i64 (r.Y : Int)] (by kernel_rfl) (enters_of Tryz.func284 (by kernel_rfl) rfl) _ (compare_held H3 hHeld) ?_
  rintro _ u14 hHeld rfl
  simp only [Act.put, List.setIfInBounds_toArray, List.set_cons_zero, List.set_cons_succ]
  refine go_val 15 20 _ rfl (by kernel_rfl) (by kernel_rfl) (by kernel_rfl) (.slice (some ⟨u14.heap.size, 0, none⟩) 3 3) (u14.alloc (.cells #[.int .i64 z1, .int .i64 z2, .int .i64 z3] 3)) (by kernel_rfl) (Below.alloc hHeld (Below.size hHeld) _) ?_
  simp only [Act.put, List.setIfInBounds_toArray, List.set_cons_zero, List.set_cons_succ]
  have hHeld2 : Low W (u14.alloc (.cells #[.int .i64 z1, .int .i64 z2, .int .i64 z3] 3)) := Below.alloc hHeld (Below.size hHeld) _
  refine go_callE 16 21 _ rfl (by kernel_rfl) (by kernel_rfl) (by kernel_rfl) 283 (.func 283) #[.tmp 20] #[71] (by kernel_rfl) #[] (by kernel_rfl) #[.slice (some ⟨u14.heap.size, 0, none⟩) 3 3] (by kernel_rfl) (enters_of Tryz.func283 (by kernel_rfl) rfl) _ (or_held [z1, z2, z3] (new_holds u14 _ _ 3 3 (by decide)) (by simp) H4 hHeld2) ?_
  rintro _ u16 hHeld rfl
  simp only [Act.put, List.setIfInBounds_toArray, List.set_cons_zero, List.set_cons_succ]
  refine go_take 17 22 _ (.bool q) rfl (by kernel_rfl) (by kernel_rfl) (by kernel_rfl) (by kernel_rfl) (fun _ _ _ h => h) (Or.inl ⟨by kernel_rfl, fun u hu => by rw [← HQ.out]; kernel_rfl⟩) hHeld ?_
  simp only [Act.put, List.setIfInBounds_toArray, List.set_cons_zero, List.set_cons_succ]
  refine go_take 18 4 _ (.bool q) rfl (by kernel_rfl) (by kernel_rfl) (by kernel_rfl) (by kernel_rfl) (fun _ _ _ h => h) (Or.inl ⟨by kernel_rfl, fun u hu => by kernel_rfl⟩) hHeld ?_
  simp only [Act.put, List.setIfInBounds_toArray, List.set_cons_zero, List.set_cons_succ]
  refine wpAnyH_done (by kernel_rfl) ?_ _
  refine NoPanic.normal ?_
  have hB2 := hB.trans (Below.mono hHeld hB.size)
  go_wp2
  go_ret
  exact ⟨rfl, hB2⟩
end Go.Proofs.YtgiojkhmkeocfaaGreatDoor

/- Going back along a run: plain. Steps of a region, by their equations. -/
set_option maxRecDepth 20000
namespace Go.Proofs.YtgiojkhmkeocfaaGreatDoor
open Go.RowKit

theorem tl_fr (x y : List Int) : ∀ i j, i ≤ x.length → j ≤ y.length → tl x y i j = fr (x.drop i) (y.drop j) := by
  intro i j
  induction h : x.length - i generalizing i j with
  | zero =>
    intro h1 h2
    rw [tl_step, if_neg (by omega), List.drop_of_length_le (by omega)]
    simp [fr]
  | succ n ih =>
    intro h1 h2
    by_cases hy : j < y.length
    · rw [tl_step, List.drop_eq_getElem_cons (by omega : i < x.length), List.drop_eq_getElem_cons hy, fr, List.getElem?_eq_getElem (by omega), List.getElem?_eq_getElem hy]
      by_cases e : x[i] = y[j]
      · rw [if_pos ⟨by omega, hy, by rw [e]⟩, if_pos e, ih (i + 1) (j + 1) (by omega) (by omega) (by omega)]
      · rw [if_neg (fun q => e (by simpa using q.2.2)), if_neg e]
    · rw [tl_step, if_neg (by omega), List.drop_of_length_le (l := y) (by omega)]
      cases x.drop i <;> simp [fr]
/-- what is left of the candidates: of member i those from place k on, and all behind it -/
def restC (x y : List Int) (R i k : Nat) : List Hr := ((pj x y R i).drop k).flatMap (ck x y R i) ++ (List.range' (i + 1) (x.length - (i + 1))).flatMap fun i => (pj x y R i).flatMap (ck x y R i)
def restI (x y : List Int) (R i : Nat) : List Hr := (List.range' i (x.length - i)).flatMap fun i => (pj x y R i).flatMap (ck x y R i)
theorem restI_zero (x y : List Int) (R : Nat) : restI x y R 0 = cands x y R := by simp [restI, cands]
theorem restI_step (x y : List Int) (R i : Nat) (hi : i < x.length) : restI x y R i = restC x y R i 0 := by
  unfold restI restC
  rw [show x.length - i = (x.length - (i + 1)) + 1 by omega, List.range'_succ, List.flatMap_cons, List.drop_zero]
theorem restI_end (x y : List Int) (R i : Nat) (hi : x.length ≤ i) : restI x y R i = [] := by
  unfold restI
  rw [show x.length - i = 0 by omega]
  rfl
theorem restC_step (x y : List Int) (R i k : Nat) (hk : k < (pj x y R i).length) : restC x y R i k = ck x y R i (pj x y R i)[k] ++ restC x y R i (k + 1) := by
  unfold restC
  rw [List.drop_eq_getElem_cons hk, List.flatMap_cons, List.append_assoc]
theorem restC_end (x y : List Int) (R i k : Nat) (hk : (pj x y R i).length ≤ k) : restC x y R i k = restI x y R (i + 1) := by
  unfold restC restI
  rw [List.drop_of_length_le hk]
  rfl
theorem pickL_append (f : Hr → Hr → Bool) (b : Hr) (l m : List Hr) : pickL f b (l ++ m) = pickL f (pickL f b l) m := by simp [pickL]
/-- one candidate -/
theorem pick_ck (x y : List Int) (R i j : Nat) (b : Hr) (h : skp x R i (hd x y i j) = false) : pickL btC b (ck x y R i j) = if btC (runAt x y i j R) b then runAt x y i j R else b := by
  unfold ck
  rw [h]
  rfl
theorem pick_skip (x y : List Int) (R i j : Nat) (b : Hr) (h : skp x R i (hd x y i j) = true) : pickL btC b (ck x y R i j) = b := by
  unfold ck
  rw [h]
  rfl
theorem skp_true {x : List Int} {R i t s : Nat} (hs : s < t) (h : cnt x (i - (s + 1)) = R) : skp x R i t = true := by
  unfold skp
  rw [List.any_eq_true]
  exact ⟨s, List.mem_range.2 hs, by simpa using h⟩
theorem skp_false {x : List Int} {R i t : Nat} (h : ∀ s, s < t → cnt x (i - (s + 1)) ≠ R) : skp x R i t = false := by
  unfold skp
  rw [List.any_eq_false]
  intro s hs
  simpa using h s (List.mem_range.1 hs)
/-- a member that both texts have is one of the rarest just if it has partners -/
theorem pj_pos {x y : List Int} {R i j : Nat} (hj : j < y.length) (he : x[i]? = y[j]?) : 0 < (pj x y R i).length ↔ cnt x i = R := by
  rw [List.length_pos_iff_exists_mem]
  constructor
  · rintro ⟨k, hk⟩
    exact ((mem_pj x y R i k).1 hk).1
  · intro h
    exact ⟨j, (mem_pj x y R i j).2 ⟨h, hj, he⟩⟩

theorem exec_slF {u : World} {ao : Option Addr} {n cap k : Nat} (hk : k ≤ n) (hn : n ≤ cap) {op : Oper} (x l : Operand) (ho : op.op = .slice 71 x (some l) none none) {ev : Operand → Value} (hx : ev x = .slice ao n cap) (hl : ev l = .int .i64 (k : Int)) :
    (execOp ev op).run Tryz.prog u = .ok (.value (.slice (slF ao cap k) (n - k) (cap - k))) u := by
  have h := run_slF ao n cap k hk hn u
  have h2 := run_sliceAt_slice (P := Tryz.prog) (w := u) 71 (.slice ao n cap) (some (.int .i64 (k : Int))) none none (by kernel_rfl)
  simp only [execOp, ho, hx, hl, Option.map_some, Option.map_none, Sem.run_bind, h2, h, Result.andThen_ok, Sem.run_pure]
theorem exec_sub {u : World} {p q r : Int} (h : IntKind.i64.wrap (p - q) = r) {op : Oper} (x l : Operand) (ho : op.op = .binOp .sub 3 x l 3) {ev : Operand → Value} (hx : ev x = .int .i64 p) (hl : ev l = .int .i64 q) :
    (execOp ev op).run Tryz.prog u = .ok (.value (.int .i64 r)) u := by
  subst h
  simp only [execOp, ho, hx, hl]
  go_simp
theorem exec_add {u : World} {p q r : Int} (h : IntKind.i64.wrap (p + q) = r) {op : Oper} (x l : Operand) (ho : op.op = .binOp .add 3 x l 3) {ev : Operand → Value} (hx : ev x = .int .i64 p) (hl : ev l = .int .i64 q) :
    (execOp ev op).run Tryz.prog u = .ok (.value (.int .i64 r)) u := by
  subst h
  simp only [execOp, ho, hx, hl]
  go_simp
theorem exec_store {u : World} {a : Addr} {z z0 : Int} (h : u.cell? a = some (.int .i64 z0)) (hf : u.frozen? a = false) {op : Oper} (x l : Operand) (ho : op.op = .store 3 x l) {ev : Operand → Value} (hx : ev x = .pointer (some a)) (hl : ev l = .int .i64 z) :
    (execOp ev op).run Tryz.prog u = .ok .skip (u.setCell a (.int .i64 z)) := by
  simp only [execOp, ho, hx, hl]
  go_simp
theorem results_cell_tmp {P : Program} {fn : Func} {p q : Tmp} {ty : TypeId} (h : fn.results = #[.cell p ty, .tmp q]) (tmps : Array Value) (w : World) (g : Nat) (t : TypeId) (cs : Array Value) (fr : Nat × Nat) (d : TypeDesc)
    (hp : tmps.getD p undef = .pointer (some ⟨g, 0, none⟩)) (hg : w.heap[g]? = some (.cells cs t fr))
    (hu : P.underlying ty = some d) (hd : (match d with | .struct _ | .array _ _ => true | _ => false) = true) (hi : (P.info? ty).map (·.size) = some cs.size) :
    (results fn tmps).run P w = .ok (.tuple #[.agg cs, tmps.getD q undef]) w := by
  have hp' : tmps[p]?.getD undef = .pointer (some ⟨g, 0, none⟩) := by simpa using hp
  simp [results, h, hp', asAddr, run_loadVar_row w g t ty cs fr d hg hu hd hi]
end Go.Proofs.YtgiojkhmkeocfaaGreatDoor

/- The run to hold on to: Best, walked. -/
set_option maxRecDepth 20000
namespace Go.Proofs.YtgiojkhmkeocfaaGreatDoor
open Go.RowKit

/-- as it was, or the run is noted -/
def Sx (Wq : World) (Br X Y N R : Nat) (u : World) : Prop := Low Wq u ∨ (Hbx u Br ⟨X, Y, N, R⟩ ∧ Wq.grownBy u (some Br))
theorem Sx.x {Wq : World} {Br X Y N R : Nat} {u : World} (h : Sx Wq Br X Y N R u) (hb : Hbx Wq Br ⟨X, Y, 0, R⟩) : u.cell? ⟨Br, 0, none⟩ = some (.int .i64 (X : Int)) := by
  rcases h with h | h
  · exact (hb.low h).cells.1
  · exact h.1.cells.1
theorem same_held {x y : List Int} {vx vy : Value} {Wq u : World} {Br X Y N R : Nat} (hx : HI u vx x) (hy : HI u vy y) (hxl : x.length ≤ 1048576) {r : Nat} (hr : Hid (fr x y = r)) (hL : Low Wq u) :
    Calls Tryz.prog 261 (#[vx, vy] ++ #[]) u fun e w' => ∃ v, e = .returned v ∧ Sx Wq Br X Y N R w' ∧ (v = .int .i64 (r : Int) ∧ Low Wq w') := by
  refine (same_f x y vx vy u hx hy hxl r hr).mono ?_
  rintro e w' ⟨rfl, hb⟩
  have h2 : Low Wq w' := Below.trans hL (hb.mono (Below.size hL))
  exact ⟨_, rfl, .inl h2, rfl, h2⟩

set_option maxRecDepth 10000 in
set_option maxHeartbeats 1000000 in
theorem Best_none (x y : List Int) (vx vy : Value) (w : World) (hx : HI w vx x) (hy : HI w vy y) (hxl : x.length ≤ 1048576) (hyl : y.length ≤ 1048576) (hwx : ∀ c ∈ x, w64 c) (hwy : ∀ c ∈ y, w64 c) (h0 : Hid (rs x 0 y = 0)) :
    Calls Tryz.prog 236 #[vx, vy] w fun e w' => e = .returned (.tuple #[hrV ⟨0, 0, 0, 0⟩, .bool false]) ∧ Below w.heap.size w w' := by
  obtain ⟨xo, xc, rfl⟩ := Holds.form hx
  obtain ⟨yo, yc, rfl⟩ := Holds.form hy
  have hB0 : Below w.heap.size w (w.alloc (.cells #[.int .i64 0, .int .i64 0, .int .i64 0, .int .i64 0] 286)) := (Below.refl _ w).alloc (Nat.le_refl _) _
  have hR0 : Hbx (w.alloc (.cells #[.int .i64 0, .int .i64 0, .int .i64 0, .int .i64 0] 286)) w.heap.size ⟨0, 0, 0, 0⟩ := Hbx.new w ⟨0, 0, 0, 0⟩
  have HWX : Hid (∀ z ∈ x, w64 z) := hwx
  have HWY : Hid (∀ z ∈ y, w64 z) := hwy
  clear hwx hwy
  go_enter Tryz.func236, Tryz.ntmps236
  go_wp2_with fail
  refine (count_f x _ _ (HI.keep hx hB0 (Nat.le_refl _)) hxl HWX.out).mono ?_
  rintro e w1 ⟨Bc, rfl, hM1, hbc, hB1⟩
  have hB01 := hB0.trans (hB1.mono (by simp))
  have hR1 := hR0.low hB1
  clear hB1 hB0 hR0
  go_wp2_with fail
  refine (rarest_f x y Bc _ w1 hM1 (HI.keep hy hB01 (Nat.le_refl _)) hxl hyl HWY.out 0 h0).mono ?_
  rintro e w2 ⟨rfl, rfl⟩
  obtain ⟨c0, c1, c2, c3⟩ := hR1.cells
  have f0 := hR1.frozen
  have s1 := heap_setCell_same w1 w.heap.size 0 _ _ (.int .i64 0) hR1
  have s2 := heap_setCell_same _ w.heap.size 1 _ _ (.int .i64 0) s1
  have s3 := heap_setCell_same _ w.heap.size 2 _ _ (.int .i64 0) s2
  have s4 := heap_setCell_same _ w.heap.size 3 _ _ (.int .i64 0) s3
  have hBf : Below w.heap.size w ((((w1.setCell ⟨w.heap.size, 0, none⟩ (.int .i64 0)).setCell ⟨w.heap.size, 1, none⟩ (.int .i64 0)).setCell ⟨w.heap.size, 2, none⟩ (.int .i64 0)).setCell ⟨w.heap.size, 3, none⟩ (.int .i64 0)) := (((hB01.setCell (p := ⟨w.heap.size, 0, none⟩) (Nat.le_refl _) _).setCell (p := ⟨w.heap.size, 1, none⟩) (Nat.le_refl _) _).setCell (p := ⟨w.heap.size, 2, none⟩) (Nat.le_refl _) _).setCell (p := ⟨w.heap.size, 3, none⟩) (Nat.le_refl _) _
  go_wp2
  exact bodyPost_ret (results_cell_tmp rfl _ _ w.heap.size 286 #[.int .i64 0, .int .i64 0, .int .i64 0, .int .i64 0] (0, 0) _ rfl s4 Tryz.underlying286 rfl (by kernel_rfl)) rfl ⟨rfl, hBf⟩

set_option maxRecDepth 10000 in
set_option maxHeartbeats 8000000 in
theorem Best_some (x y : List Int) (vx vy : Value) (w : World) (hx : HI w vx x) (hy : HI w vy y) (hxl : x.length ≤ 1048576) (hyl : y.length ≤ 1048576) (hwx : ∀ c ∈ x, w64 c) (hwy : ∀ c ∈ y, w64 c) (R : Nat) (h0 : Hid (rs x 0 y = R)) (hR : 0 < R) (b : Hr) (hb : Hid (pickL btC ⟨0, 0, 0, 0⟩ (cands x y R) = b)) :
    Calls Tryz.prog 236 #[vx, vy] w fun e w' => e = .returned (.tuple #[hrV b, .bool true]) ∧ Below w.heap.size w w' := by
  obtain ⟨xo, xc, rfl⟩ := Holds.form hx
  obtain ⟨yo, yc, rfl⟩ := Holds.form hy
  have hcx := hold_cap hx
  have hcy := hold_cap hy
  have hRl : R ≤ x.length := by rw [← h0.out]; exact rs_le x y 0 (Nat.zero_le _)
  have hB0 : Below w.heap.size w (w.alloc (.cells #[.int .i64 0, .int .i64 0, .int .i64 0, .int .i64 0] 286)) := (Below.refl _ w).alloc (Nat.le_refl _) _
  have hR0 : Hbx (w.alloc (.cells #[.int .i64 0, .int .i64 0, .int .i64 0, .int .i64 0] 286)) w.heap.size ⟨0, 0, 0, 0⟩ := Hbx.new w ⟨0, 0, 0, 0⟩
  have HWX : Hid (∀ z ∈ x, w64 z) := hwx
  have HWY : Hid (∀ z ∈ y, w64 z) := hwy
  have HB0 : Hid (pickL btC ⟨0, 0, 0, 0⟩ (restI x y R 0) = b) := (by rw [restI_zero]; exact hb)
  clear hwx hwy hb
  have e0 : ((R : Int) == 0) = false := beq_eq_false_iff_ne.2 (by omega)
  go_enter Tryz.func236, Tryz.ntmps236
  go_wp2_with fail
  refine (count_f x _ _ (HI.keep hx hB0 (Nat.le_refl _)) hxl HWX.out).mono ?_
  rintro e w1 ⟨Bc, rfl, hM1, hbc, hB1⟩
  have hB01 := hB0.trans (hB1.mono (by simp))
  have hR1 := hR0.low hB1
  clear hB1 hB0 hR0
  go_wp2_with fail
  refine (rarest_f x y Bc _ w1 hM1 (HI.keep hy hB01 (Nat.le_refl _)) hxl hyl HWY.out R h0).mono ?_
  rintro e w2 ⟨rfl, rfl⟩
  go_wp2_with fail
  refine (hplaces_f x y R Bc _ w1 hM1 (HI.keep hy hB01 (Nat.le_refl _)) hyl HWY.out).mono ?_
  rintro e w3 ⟨rfl, hG3, hB3⟩
  have hB03 := hB01.trans (hB3.mono hB01.size)
  have hR3 := hR1.low hB3
  obtain ⟨base, hbase⟩ : ∃ base, w1.heap.size + 1 = base := ⟨_, rfl⟩
  rw [hbase] at hG3
  clear hB3 hB01 hR1 hM1 hbase
  go_wp2_with fail
  refine (partners_f x y R w1.heap.size base _ w3 hG3 (HI.keep hx hB03 (Nat.le_refl _)) hxl hyl HWX.out).mono ?_
  rintro e W1 ⟨vs, rfl, hO4, hP4, hB4⟩
  have hB04 := hB03.trans (hB4.mono hB03.size)
  have hR4 := hR3.low hB4
  obtain ⟨gp, hgp⟩ : ∃ gp, w3.heap.size = gp := ⟨_, rfl⟩
  rw [hgp] at hO4 ⊢
  clear hB4 hB03 hR3 hG3 hgp HWX HWY hbc
  have hBx := Hbx.new W1 ⟨0, 0, 0, 0⟩
  have hw1 := hB04.size
  have hr4 := hR4.lt
  go_wp2
  go_loopw [31] (fun iv wr => ∃ (i : Nat) (c : Hr), i ≤ x.length ∧ iv = .int .i64 i ∧ Low W1 wr ∧ Hbx wr W1.heap.size c ∧ Hid (pickL btC c (restI x y R i) = b)) (fun iv _ => x.length - (intOf iv).toNat)
  case atStart => exact ⟨0, ⟨0, 0, 0, 0⟩, Nat.zero_le _, rfl, (Below.refl _ W1).alloc (Nat.le_refl _) _, hBx, HB0⟩
  case round =>
    clear hBx HB0
    obtain ⟨i, c, hi, rfl, hL, hC, HB⟩ := hrel
    have hsr := Below.size hL
    by_cases hil : i < x.length
    · have HB2 : Hid (pickL btC c (restC x y R i 0) = b) := (by rw [← restI_step x y R i hil]; exact HB)
      obtain ⟨v, hv1, hv2⟩ := hP4.2 i hil
      obtain ⟨so, sc, rfl⟩ := (holds_of hv2.1).form
      have hvl := hP4.1
      have p0 := (owns_keep hO4 hL).cellAt i (by omega)
      rw [hv1] at p0
      obtain ⟨n2, hn2⟩ : ∃ n, (nI (pj x y R i)).length = n := ⟨_, rfl⟩
      have hv3 : Holds W1 (.slice so n2 sc) n2 (icells (nI (pj x y R i))) := by
        have := holds_of hv2.1
        rw [hn2] at this
        exact this
      have hn3 : (pj x y R i).length = n2 := by rw [← hn2]; simp [nI]
      have hn4 : n2 ≤ y.length := by rw [← hn3, ← pl_pj x y R i hil]; exact pl_le x R y _
      rw [hn2] at p0
      have HN : Hid (n2 = (pj x y R i).length) := hn3.symm
      clear hn2 hv2 hv1 HB hn3
      have i1 : 0 ≤ (i : Int) := by omega
      have i2 : (i : Int) < (x.length : Int) := by omega
      go_wp2
      go_step3
      go_wp2
      go_step3
      go_wp2
      clear p0
      go_loopw [38] (fun kv wq => ∃ (k : Nat) (c : Hr), k ≤ n2 ∧ kv = .int .i64 k ∧ Low W1 wq ∧ Hbx wq W1.heap.size c ∧ Hid (pickL btC c (restC x y R i k) = b)) (fun kv _ => n2 - (intOf kv).toNat)
      case atStart => exact ⟨0, c, Nat.zero_le _, rfl, hL, hC, HB2⟩
      case round =>
        clear HB2 hL hC hsr
        obtain ⟨k, c, hk, rfl, hL, hC, HB⟩ := hrel
        have hsr := Below.size hL
        by_cases hkl : k < n2
        · have hkp : k < (pj x y R i).length := by rw [← HN.out]; exact hkl
          obtain ⟨j, hj⟩ : ∃ j, (pj x y R i)[k] = j := ⟨_, rfl⟩
          have hmj := (mem_pj x y R i j).1 (by rw [← hj]; exact List.getElem_mem _)
          obtain ⟨hcR, hjl, hxy⟩ := hmj
          have HB2 : Hid (pickL btC c (ck x y R i j ++ restC x y R i (k + 1)) = b) := (by rw [← hj, ← restC_step x y R i k hkp]; exact HB)
          obtain ⟨sb, sf, scc, hse, _, hcs⟩ := Holds.at (Holds.keep hv3 (fun q hq => Below.block hL q hq)) (by rw [icells_length]; simp [nI]; omega)
          cases hse
          have q0 : wr.cell? ⟨sb, sf + k, none⟩ = some (.int .i64 (j : Int)) := by
            rw [hcs k (by rw [icells_length]; simp [nI]; omega)]
            simp [icells, nI, hj]
          clear hcs hj HB
          have k1 : 0 ≤ (k : Int) := by omega
          have k2 : (k : Int) < (n2 : Int) := by omega
          have hRn := Hbx.new wr ⟨i, j, 0, R⟩
          obtain ⟨Br, hBr⟩ : ∃ Br, wr.heap.size = Br := ⟨_, rfl⟩
          rw [hBr] at hRn
          have hLn : Low W1 (wr.alloc (.cells #[.int .i64 (i : Int), .int .i64 (j : Int), .int .i64 ((0 : Nat) : Int), .int .i64 (R : Int)] 286)) := Below.alloc hL hsr _
          have hCn := hC.low ((Below.refl _ wr).alloc (Nat.le_refl _) (.cells #[.int .i64 (i : Int), .int .i64 (j : Int), .int .i64 ((0 : Nat) : Int), .int .i64 (R : Int)] 286))
          have hCl := hC.lt
          have HH0 : Hid (hd x y i j = 0 + hd x y (i - 0) (j - 0)) := (by show _ = _; simp)
          go_wp2
          have hBrl : Br < wr.heap.size + 1 := by omega
          clear q0
          go_loopw [] (fun wz => ∃ (s X Y : Nat), X + s = i ∧ Y + s = j ∧ Low W1 wz ∧ Hbx wz W1.heap.size c ∧ Hbx wz Br ⟨X, Y, 0, R⟩ ∧ Hid (hd x y i j = s + hd x y X Y) ∧ Hid (∀ s', s' < s → cnt x (i - (s' + 1)) ≠ R)) (fun wz => (intOf ((wz.cell? ⟨Br, 0, none⟩).getD undef)).toNat)
          case atStart => exact ⟨0, i, j, rfl, rfl, hLn, hCn, hRn, HH0, fun s' hs' => by omega⟩
          case round =>
            clear hRn hLn hCn HH0 hL hC
            have hBw : W1.heap.size < Br := by omega
            clear hBr hBrl hCl hsr
            obtain ⟨s, X, Y, hX, hY, hL, hC, hH, HH, HS⟩ := hrel
            have hsz := Below.size hL
            obtain ⟨c0, c1, c2, c3⟩ := hH.cells
            have hB0z := hB04.trans (Below.mono hL hw1)
            obtain ⟨q, hq⟩ : ∃ q, decide (0 < X ∧ 0 < Y ∧ x[X - 1]? = y[Y - 1]?) = q := ⟨_, rfl⟩
            have HQ : Hid (decide (0 < X ∧ 0 < Y ∧ x[X - 1]? = y[Y - 1]?) = q) := hq
            clear hq
            go_wp2_with fail
            go_cut [68] from 46 to 83 (fun z wc => z = .bool q ∧ ∃ m, wc = wr.drewN m)
            case first =>
              by_cases hX0 : 0 < X
              · obtain ⟨px, rfl⟩ : ∃ p, X = p + 1 := ⟨X - 1, by omega⟩
                have g1 : decide ((0 : Int) < ((px + 1 : Nat) : Int)) = true := decide_eq_true (by omega)
                have g1' : (0 : Int) < (px : Int) + 1 := by omega
                by_cases hY0 : 0 < Y
                · obtain ⟨py, rfl⟩ : ∃ p, Y = p + 1 := ⟨Y - 1, by omega⟩
                  have g2' : (0 : Int) < (py : Int) + 1 := by omega
                  obtain ⟨xb, xf, rfl, _, hqx⟩ := HI.at (HI.keep hx hB0z (Nat.le_refl _)) (by omega)
                  obtain ⟨yb, yf, rfl, _, hqy⟩ := HI.at (HI.keep hy hB0z (Nat.le_refl _)) (by omega)
                  have x0 := hqx px (by omega)
                  have y0 := hqy py (by omega)
                  obtain ⟨zx, hzx⟩ : ∃ z, x[px] = z := ⟨_, rfl⟩
                  obtain ⟨zy, hzy⟩ : ∃ z, y[py] = z := ⟨_, rfl⟩
                  rw [hzx] at x0
                  rw [hzy] at y0
                  have e9 : (zx == zy) = q := by
                    rw [← HQ.out, Nat.add_sub_cancel, Nat.add_sub_cancel, List.getElem?_eq_getElem (by omega), List.getElem?_eq_getElem (by omega), hzx, hzy]
                    by_cases q : zx = zy <;> simp [q]
                  have n1 : IntKind.i64.wrap ((px : Int) + 1 - 1) = (px : Int) := by rw [IntKind.wrap_i64]; omega
                  have n2 : IntKind.i64.wrap ((py : Int) + 1 - 1) = (py : Int) := by rw [IntKind.wrap_i64]; omega
                  have n3 : IntKind.i64.wrap (px : Int) = (px : Int) := by rw [IntKind.wrap_i64]; omega
                  have n4 : IntKind.i64.wrap (py : Int) = (py : Int) := by rw [IntKind.wrap_i64]; omega
                  have n5 : (px : Int) + 1 - 1 = (px : Int) := by omega
                  have n6 : (py : Int) + 1 - 1 = (py : Int) := by omega
                  have j1 : 0 ≤ (px : Int) := by omega
                  have j2 : (px : Int) < (x.length : Int) := by omega
                  have j3 : 0 ≤ (py : Int) := by omega
                  have j4 : (py : Int) < (y.length : Int) := by omega
                  clear hqx hqy hzx hzy HQ HH HS
                  go_big_quiet (fail)
                  go_wp2
                  go_meet
                  case rel => exact ⟨rfl, _, rfl⟩
                · obtain rfl : Y = 0 := by omega
                  obtain rfl : q = false := by rw [← HQ.out]; simp
                  clear HQ HH HS
                  go_big_quiet (fail)
                  go_wp2
                  go_meet
                  case rel => exact ⟨rfl, _, rfl⟩
              · obtain rfl : X = 0 := by omega
                obtain rfl : q = false := by rw [← HQ.out]; simp
                clear HQ HH HS
                go_big_quiet (fail)
                go_wp2
                go_meet
                case rel => exact ⟨rfl, _, rfl⟩
            case rest =>
              obtain ⟨rfl, mq, rfl⟩ := hcut
              have hLq : Low W1 (wr.drewN mq) := Below.dN hL mq
              have hCq : Hbx (wr.drewN mq) W1.heap.size c := hC
              have hHq : Hbx (wr.drewN mq) Br ⟨X, Y, 0, R⟩ := hH
              have cw := c0
              clear hL hC hH c0 c1 c2 c3 hB0z hsz
              generalize wr.drewN mq = Wq at hLq hCq hHq ⊢
              obtain ⟨c0, c1, c2, c3⟩ := hHq.cells
              have fz := hHq.frozen
              have hsz := Below.size hLq
              cases q with
              | true =>
                obtain ⟨hX0, hY0, hxy2⟩ := of_decide_eq_true HQ.out
                obtain ⟨px, rfl⟩ : ∃ p, X = p + 1 := ⟨X - 1, by omega⟩
                obtain ⟨py, rfl⟩ : ∃ p, Y = p + 1 := ⟨Y - 1, by omega⟩
                rw [Nat.add_sub_cancel, Nat.add_sub_cancel] at hxy2
                have HH2 : Hid (hd x y i j = s + 1 + hd x y px py) := (by
                  show _ = _
                  have := HH.out
                  rw [hd_step x y (px + 1) (py + 1), if_pos ⟨by omega, by omega, by rw [Nat.add_sub_cancel, Nat.add_sub_cancel]; exact hxy2⟩, Nat.add_sub_cancel, Nat.add_sub_cancel] at this
                  omega)
                have hpx : i - (s + 1) = px := by omega
                obtain ⟨v2, hv1, hv2⟩ := hP4.2 px (by omega)
                obtain ⟨pto, ptc, rfl⟩ := (holds_of hv2.1).form
                have hpp := pj_pos (x := x) (y := y) (R := R) (i := px) (j := py) (by omega) hxy2
                have hn9 : (nI (pj x y R px)).length = (pj x y R px).length := by simp [nI]
                rw [hn9] at hv1
                obtain ⟨n9, hn8⟩ : ∃ n, (pj x y R px).length = n := ⟨_, rfl⟩
                rw [hn8] at hv1 hpp
                have hvl2 := hP4.1
                have hb1 := heap_setCell_same Wq Br 0 _ _ (.int .i64 (px : Int)) hHq
                have hb2 : Hbx ((Wq.setCell ⟨Br, 0, none⟩ (.int .i64 (px : Int))).setCell ⟨Br, 1, none⟩ (.int .i64 (py : Int))) Br ⟨px, py, 0, R⟩ := heap_setCell_same _ Br 1 _ _ (.int .i64 (py : Int)) hb1
                have hg2 : Wq.grownBy ((Wq.setCell ⟨Br, 0, none⟩ (.int .i64 (px : Int))).setCell ⟨Br, 1, none⟩ (.int .i64 (py : Int))) (some Br) := (grown_set Wq Br 0 _).trans (grown_set _ Br 1 _)
                have hL2 : Low W1 ((Wq.setCell ⟨Br, 0, none⟩ (.int .i64 (px : Int))).setCell ⟨Br, 1, none⟩ (.int .i64 (py : Int))) := Below.grown hLq hg2 hsz (fun q hq => by cases hq; omega)
                have hC2 := hCq.keep hg2 (by simp; omega)
                have p0 := (owns_keep hO4 hL2).cellAt px (by omega)
                rw [hv1] at p0
                obtain ⟨d0, d1, d2, d3⟩ := hb2.cells
                have cm : ((Wq.setCell ⟨Br, 0, none⟩ (.int .i64 (px : Int))).setCell ⟨Br, 1, none⟩ (.int .i64 (py : Int))).cell? ⟨Br, 0, none⟩ = some (.int .i64 (px : Int)) := d0
                have c1s : (Wq.setCell ⟨Br, 0, none⟩ (.int .i64 (px : Int))).cell? ⟨Br, 1, none⟩ = some (.int .i64 ((py : Int) + 1)) := by
                  have : Hbx (Wq.setCell ⟨Br, 0, none⟩ (.int .i64 (px : Int))) Br ⟨px, py + 1, 0, R⟩ := hb1
                  exact this.cells.2.1
                have c0s : Wq.cell? ⟨Br, 0, none⟩ = some (.int .i64 ((px : Int) + 1)) := c0
                have c1t : Wq.cell? ⟨Br, 1, none⟩ = some (.int .i64 ((py : Int) + 1)) := c1
                have f1s : (Wq.setCell ⟨Br, 0, none⟩ (.int .i64 (px : Int))).frozen? ⟨Br, 1, none⟩ = false := by
                  have : Hbx (Wq.setCell ⟨Br, 0, none⟩ (.int .i64 (px : Int))) Br ⟨px, py + 1, 0, R⟩ := hb1
                  exact this.frozen 1
                have f0s := fz 0
                have n5 : (px : Int) + 1 - 1 = (px : Int) := by omega
                have n6 : (py : Int) + 1 - 1 = (py : Int) := by omega
                have j1 : 0 ≤ (px : Int) := by omega
                have j2 : (px : Int) < (x.length : Int) := by omega
                clear c0 c1 c2 c3 fz hv1 hv2 hn8 hn9 hb1 HH HQ d1 d2 d3 hHq hCq hLq hg2
                by_cases hc : cnt x px = R
                · have hn0 : 0 < n9 := hpp.2 hc
                  have hn0' : (0 : Int) < (n9 : Int) := by omega
                  have HB3 : Hid (pickL btC c (restC x y R i (k + 1)) = b) := (by
                    show _ = _
                    rw [← HB2.out, pickL_append, pick_skip x y R i j c (skp_true (s := s) (by rw [HH2.out]; omega) (by rw [hpx]; exact hc))]
                    )
                  clear HB2 hpp hc hpx
                  go_wp2
                  go_roundw
                  case rel => exact ⟨k + 1, c, by omega, by go_num, hL2, hC2, HB3⟩
                  case measure => simp [intOf]; omega
                · have hn0 : n9 = 0 := by
                    rcases Nat.eq_zero_or_pos n9 with h | h
                    · exact h
                    · exact absurd (hpp.1 h) hc
                  subst hn0
                  have HS2 : Hid (∀ s', s' < s + 1 → cnt x (i - (s' + 1)) ≠ R) := (by
                    intro s' hs'
                    by_cases e : s' = s
                    · subst e; rw [hpx]; exact hc
                    · exact HS.out s' (by omega))
                  clear hpp hc hpx HS
                  go_wp2
                  go_roundw
                  case rel => exact ⟨s + 1, px, py, by omega, by omega, hL2, hC2, hb2, HH2, HS2⟩
                  case measure =>
                    rw [cw, cm]
                    simp [intOf]
              | false =>
                have hnq := of_decide_eq_false HQ.out
                have hhd : hd x y i j = s := by
                  have := HH.out
                  rw [hd_step x y X Y, if_neg hnq] at this
                  omega
                obtain ⟨t, ht⟩ : ∃ t, tl x y i j = t := ⟨_, rfl⟩
                obtain ⟨N, hN⟩ : ∃ N, s + t = N := ⟨_, rfl⟩
                have HSk : Hid (skp x R i (hd x y i j) = false) := skp_false (by rw [hhd]; exact HS.out)
                have HRun : Hid (runAt x y i j R = ⟨X, Y, N, R⟩) := (by
                  show _ = _
                  unfold runAt
                  rw [hhd, ht, hN, show i - s = X by omega, show j - s = Y by omega])
                have htl := tl_le x y i j
                rw [ht] at htl
                have HTL : Hid (fr (x.drop i) (y.drop j) = t) := (by show _ = _; rw [← tl_fr x y i j (by omega) (by omega)]; exact ht)
                have HXl : Hid ((x.drop i).length ≤ 1048576) := (by show _ ≤ _; simp; omega)
                have hBw : Below w.heap.size w (Wq.drewN 1) := Below.dN (hB04.trans (Below.mono hLq hw1)) 1
                have hxs : HI (Wq.drewN 1) (.slice (slF xo xc i) (x.length - i) (xc - i)) (x.drop i) ∧ HI (Wq.drewN 1) (.slice (slF yo yc j) (y.length - j) (yc - j)) (y.drop j) := by
                  have h1 := hold_from (HI.keep hx hBw (Nat.le_refl _)) rfl (Nat.le_of_lt hil)
                  have h2 := hold_from (HI.keep hy hBw (Nat.le_refl _)) rfl (Nat.le_of_lt hjl)
                  unfold HI
                  rw [List.length_drop, List.length_drop]
                  exact ⟨h1, h2⟩
                have n1 : IntKind.i64.wrap ((i : Int) - (X : Int)) = (s : Int) := by rw [IntKind.wrap_i64]; omega
                have n2 : IntKind.i64.wrap ((s : Int) + (t : Int)) = (N : Int) := by rw [IntKind.wrap_i64]; omega
                have hHb := hHq
                clear HH HQ HS hnq hhd ht hN c0 c1 c2 c3 fz cw
                go_wp2_with fail
                refine wp_region_noPanic ?_
                refine wp_region_held_drew (S := fun u => Sx Wq Br X Y N R u) (by kernel_rfl) (.inl (Below.dN (Below.refl _ Wq) 1)) (fun hHeld => ?_)
                refine go_take 0 84 _ (.int .i64 (i : Int)) rfl (by kernel_rfl) (by kernel_rfl) (by kernel_rfl) (by kernel_rfl) (fun _ _ _ h => h) (Or.inl ⟨by kernel_rfl, fun u hu => by kernel_rfl⟩) hHeld ?_
                simp only [Act.put, List.setIfInBounds_toArray, List.set_cons_zero, List.set_cons_succ]
                refine go_take 1 85 _ (.pointer (some ⟨Br, 0, none⟩)) rfl (by kernel_rfl) (by kernel_rfl) (by kernel_rfl) (by kernel_rfl) (fun _ _ _ h => h) (Or.inl ⟨by kernel_rfl, fun u hu => by kernel_rfl⟩) hHeld ?_
                simp only [Act.put, List.setIfInBounds_toArray, List.set_cons_zero, List.set_cons_succ]
                refine go_take 2 86 _ (.int .i64 (X : Int)) rfl (by kernel_rfl) (by kernel_rfl) (by kernel_rfl) (by kernel_rfl) (fun _ _ _ h => h) (Or.inl ⟨by kernel_rfl, fun u hu => load_int (hu.x hHb) (.tmp 85) (by kernel_rfl) (by kernel_rfl)⟩) hHeld ?_
                simp only [Act.put, List.setIfInBounds_toArray, List.set_cons_zero, List.set_cons_succ]
                refine go_take 3 87 _ (.int .i64 (s : Int)) rfl (by kernel_rfl) (by kernel_rfl) (by kernel_rfl) (by kernel_rfl) (fun _ _ _ h => h) (Or.inl ⟨by kernel_rfl, fun u hu => exec_sub n1 (.tmp 84) (.tmp 86) (by kernel_rfl) (by kernel_rfl) (by kernel_rfl)⟩) hHeld ?_
                simp only [Act.put, List.setIfInBounds_toArray, List.set_cons_zero, List.set_cons_succ]
                refine go_take 4 88 _ (.slice xo x.length xc) rfl (by kernel_rfl) (by kernel_rfl) (by kernel_rfl) (by kernel_rfl) (fun _ _ _ h => h) (Or.inl ⟨by kernel_rfl, fun u hu => by kernel_rfl⟩) hHeld ?_
                simp only [Act.put, List.setIfInBounds_toArray, List.set_cons_zero, List.set_cons_succ]
                refine go_take 5 89 _ (.int .i64 (i : Int)) rfl (by kernel_rfl) (by kernel_rfl) (by kernel_rfl) (by kernel_rfl) (fun _ _ _ h => h) (Or.inl ⟨by kernel_rfl, fun u hu => by kernel_rfl⟩) hHeld ?_
                simp only [Act.put, List.setIfInBounds_toArray, List.set_cons_zero, List.set_cons_succ]
                refine go_take 6 90 _ (.slice (slF xo xc i) (x.length - i) (xc - i)) rfl (by kernel_rfl) (by kernel_rfl) (by kernel_rfl) (by kernel_rfl) (fun _ _ _ h => h) (Or.inl ⟨by kernel_rfl, fun u hu => exec_slF (Nat.le_of_lt hil) hcx (.tmp 88) (.tmp 89) (by kernel_rfl) (by kernel_rfl) (by kernel_rfl)⟩) hHeld ?_
                simp only [Act.put, List.setIfInBounds_toArray, List.set_cons_zero, List.set_cons_succ]
                refine go_take 7 91 _ (.slice yo y.length yc) rfl (by kernel_rfl) (by kernel_rfl) (by kernel_rfl) (by kernel_rfl) (fun _ _ _ h => h) (Or.inl ⟨by kernel_rfl, fun u hu => by kernel_rfl⟩) hHeld ?_
                simp only [Act.put, List.setIfInBounds_toArray, List.set_cons_zero, List.set_cons_succ]
                refine go_take 8 92 _ (.int .i64 (j : Int)) rfl (by kernel_rfl) (by kernel_rfl) (by kernel_rfl) (by kernel_rfl) (fun _ _ _ h => h) (Or.inl ⟨by kernel_rfl, fun u hu => by kernel_rfl⟩) hHeld ?_
                simp only [Act.put, List.setIfInBounds_toArray, List.set_cons_zero, List.set_cons_succ]
                refine go_take 9 93 _ (.slice (slF yo yc j) (y.length - j) (yc - j)) rfl (by kernel_rfl) (by kernel_rfl) (by kernel_rfl) (by kernel_rfl) (fun _ _ _ h => h) (Or.inl ⟨by kernel_rfl, fun u hu => exec_slF (Nat.le_of_lt hjl) hcy (.tmp 91) (.tmp 92) (by kernel_rfl) (by kernel_rfl) (by kernel_rfl)⟩) hHeld ?_
                simp only [Act.put, List.setIfInBounds_toArray, List.set_cons_zero, List.set_cons_succ]
                refine go_callE 10 94 _ rfl (by kernel_rfl) (by kernel_rfl) (by kernel_rfl) 261 (.func 261) #[.tmp 90, .tmp 93] #[71, 71] (by kernel_rfl) #[] (by kernel_rfl) #[.slice (slF xo xc i) (x.length - i) (xc - i), .slice (slF yo yc j) (y.length - j) (yc - j)] (by kernel_rfl) (enters_of Tryz.func261 (by kernel_rfl) rfl) _ (same_held (N := N) (X := X) (Y := Y) (R := R) (Br := Br) hxs.1 hxs.2 HXl.out HTL (Below.dN (Below.refl _ Wq) 1)) ?_
                rintro _ u10 hHeld ⟨rfl, hL10⟩
                simp only [Act.put, List.setIfInBounds_toArray, List.set_cons_zero, List.set_cons_succ]
                refine go_take 11 95 _ (.int .i64 (N : Int)) rfl (by kernel_rfl) (by kernel_rfl) (by kernel_rfl) (by kernel_rfl) (fun _ _ _ h => h) (Or.inl ⟨by kernel_rfl, fun u hu => exec_add n2 (.tmp 87) (.tmp 94) (by kernel_rfl) (by kernel_rfl) (by kernel_rfl)⟩) hHeld ?_
                simp only [Act.put, List.setIfInBounds_toArray, List.set_cons_zero, List.set_cons_succ]
                refine go_take 12 96 _ (.pointer (some ⟨Br, 2, none⟩)) rfl (by kernel_rfl) (by kernel_rfl) (by kernel_rfl) (by kernel_rfl) (fun _ _ _ h => h) (Or.inl ⟨by kernel_rfl, fun u hu => by kernel_rfl⟩) hHeld ?_
                simp only [Act.put, List.setIfInBounds_toArray, List.set_cons_zero, List.set_cons_succ]
                have hHd := hHb.low hL10
                have hFin : Hbx (u10.setCell ⟨Br, 2, none⟩ (.int .i64 (N : Int))) Br ⟨X, Y, N, R⟩ := heap_setCell_same u10 Br 2 _ _ _ hHd
                have hGr : Wq.grownBy (u10.setCell ⟨Br, 2, none⟩ (.int .i64 (N : Int))) (some Br) := (low_grown hL10 (some Br)).trans (grown_set u10 Br 2 _)
                refine go_skip 13 _ rfl (by kernel_rfl) (by kernel_rfl) (by kernel_rfl) (u10.setCell ⟨Br, 2, none⟩ (.int .i64 (N : Int))) (exec_store hHd.cells.2.2.1 (hHd.frozen 2) (.tmp 96) (.tmp 95) (by kernel_rfl) (by kernel_rfl) (by kernel_rfl)) (.inr ⟨hFin, hGr⟩) ?_
                refine wpAnyH_done (by kernel_rfl) ?_ _
                refine NoPanic.normal ?_
                have hL3 : Low W1 (u10.setCell ⟨Br, 2, none⟩ (.int .i64 (N : Int))) := Below.grown hLq hGr hsz (fun q hq => by cases hq; omega)
                have hC3 := hCq.keep hGr (by simp; omega)
                clear hHeld hHd hGr hL10 hHb hHq hCq hLq hxs n1 n2 HTL HXl hBw
                generalize u10.setCell ⟨Br, 2, none⟩ (.int .i64 (N : Int)) = u3 at hFin hL3 hC3 ⊢
                obtain ⟨c0, c1, c2, c3⟩ := hFin.cells
                obtain ⟨d0, d1, d2, d3⟩ := hC3.cells
                obtain ⟨q, hq⟩ : ∃ q, btC ⟨X, Y, N, R⟩ c = q := ⟨_, rfl⟩
                have HQ2 : Hid (btC ⟨X, Y, N, R⟩ c = q) := hq
                have HB3 : Hid (pickL btC (if q then ⟨X, Y, N, R⟩ else c) (restC x y R i (k + 1)) = b) := (by
                  show _ = _
                  rw [← HB2.out, pickL_append, pick_ck x y R i j c HSk.out, HRun.out, hq])
                clear hq HB2 HSk HRun
                go_wp2_with fail
                refine (outdoes_f ⟨X, Y, N, R⟩ c q u3 HQ2).mono ?_
                rintro e u4 ⟨rfl, hB4⟩
                have hL4 : Low W1 u4 := Below.trans hL3 (hB4.mono (Below.size hL3))
                have hC4 := hC3.low hB4
                have hF4 := hFin.low hB4
                clear c0 c1 c2 c3 d0 d1 d2 d3 hL3 hC3 hFin hB4
                have hs4 := Below.size hL4
                cases q with
                | true =>
                  obtain ⟨c0, c1, c2, c3⟩ := hF4.cells
                  obtain ⟨d0, d1, d2, d3⟩ := hC4.cells
                  have f4 := hC4.frozen
                  have s1 := heap_setCell_same u4 W1.heap.size 0 _ _ (.int .i64 (X : Int)) hC4
                  have s2 := heap_setCell_same _ W1.heap.size 1 _ _ (.int .i64 (Y : Int)) s1
                  have s3 := heap_setCell_same _ W1.heap.size 2 _ _ (.int .i64 (N : Int)) s2
                  have s4 : Hbx ((((u4.setCell ⟨W1.heap.size, 0, none⟩ (.int .i64 (X : Int))).setCell ⟨W1.heap.size, 1, none⟩ (.int .i64 (Y : Int))).setCell ⟨W1.heap.size, 2, none⟩ (.int .i64 (N : Int))).setCell ⟨W1.heap.size, 3, none⟩ (.int .i64 (R : Int))) W1.heap.size ⟨X, Y, N, R⟩ := heap_setCell_same _ W1.heap.size 3 _ _ (.int .i64 (R : Int)) s3
                  have hL5 : Low W1 ((((u4.setCell ⟨W1.heap.size, 0, none⟩ (.int .i64 (X : Int))).setCell ⟨W1.heap.size, 1, none⟩ (.int .i64 (Y : Int))).setCell ⟨W1.heap.size, 2, none⟩ (.int .i64 (N : Int))).setCell ⟨W1.heap.size, 3, none⟩ (.int .i64 (R : Int))) := (((Below.setCell (p := ⟨W1.heap.size, 0, none⟩) hL4 (Nat.le_refl _) _).setCell (p := ⟨W1.heap.size, 1, none⟩) (Nat.le_refl _) _).setCell (p := ⟨W1.heap.size, 2, none⟩) (Nat.le_refl _) _).setCell (p := ⟨W1.heap.size, 3, none⟩) (Nat.le_refl _) _
                  go_wp2
                  go_roundw
                  case rel => exact ⟨k + 1, ⟨X, Y, N, R⟩, by omega, by go_num, hL5, s4, HB3⟩
                  case measure => simp [intOf]; omega
                | false =>
                  go_wp2
                  go_roundw
                  case rel => exact ⟨k + 1, c, by omega, by go_num, hL4, hC4, HB3⟩
                  case measure => simp [intOf]; omega
        · have HB2 : Hid (pickL btC c (restI x y R (i + 1)) = b) := (by rw [← restC_end x y R i k (by rw [← HN.out]; omega)]; exact HB)
          have hk' : ¬ (k : Int) < (n2 : Int) := by omega
          clear HB
          go_wp2
          go_roundw
          case rel => exact ⟨i + 1, c, by omega, by go_num, hL, hC, HB2⟩
          case measure => simp [intOf]; omega
    · have e : c = b := by
        have := HB.out
        rw [restI_end x y R i (by omega)] at this
        exact this
      subst e
      have hi' : ¬ (i : Int) < (x.length : Int) := by omega
      have hR5 := hR4.low hL
      obtain ⟨c0, c1, c2, c3⟩ := hC.cells
      obtain ⟨d0, d1, d2, d3⟩ := hR5.cells
      have f0 := hR5.frozen
      have s1 := heap_setCell_same wr w.heap.size 0 _ _ (.int .i64 (c.X : Int)) hR5
      have s2 := heap_setCell_same _ w.heap.size 1 _ _ (.int .i64 (c.Y : Int)) s1
      have s3 := heap_setCell_same _ w.heap.size 2 _ _ (.int .i64 (c.N : Int)) s2
      have s4 := heap_setCell_same _ w.heap.size 3 _ _ (.int .i64 (c.R : Int)) s3
      have hBr := hB04.trans (Below.mono hL hw1)
      have hBf : Below w.heap.size w ((((wr.setCell ⟨w.heap.size, 0, none⟩ (.int .i64 (c.X : Int))).setCell ⟨w.heap.size, 1, none⟩ (.int .i64 (c.Y : Int))).setCell ⟨w.heap.size, 2, none⟩ (.int .i64 (c.N : Int))).setCell ⟨w.heap.size, 3, none⟩ (.int .i64 (c.R : Int))) := (((hBr.setCell (p := ⟨w.heap.size, 0, none⟩) (Nat.le_refl _) _).setCell (p := ⟨w.heap.size, 1, none⟩) (Nat.le_refl _) _).setCell (p := ⟨w.heap.size, 2, none⟩) (Nat.le_refl _) _).setCell (p := ⟨w.heap.size, 3, none⟩) (Nat.le_refl _) _
      go_wp2
      exact bodyPost_ret (results_cell_tmp rfl _ _ w.heap.size 286 #[.int .i64 (c.X : Int), .int .i64 (c.Y : Int), .int .i64 (c.N : Int), .int .i64 (c.R : Int)] (0, 0) _ rfl s4 Tryz.underlying286 rfl (by kernel_rfl)) rfl ⟨rfl, hBf⟩
end Go.Proofs.YtgiojkhmkeocfaaGreatDoor
