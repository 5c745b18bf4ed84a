/-
  Texts that belong together, joined: SpGr, SpRg.
-/
import Derived.Test.YteplejpbgajecaaPartA4
import Derived.Test.YteplejpbgajecaaPartA2

/- Greedy from the last place down, as the reference goes: plain. -/
namespace Go.Proofs.Yteplejpbgajecaa

/-- the least place from j on that will do, or -1 -/
def atF (c : Int) (y : List Int) (nx : Nat) (far : Int) (j : Nat) : Int := match (y.drop j).findIdx? (fun z => z == c) with
  | some k => if ((j + k : Nat) : Int) - (nx : Int) < far then ((j + k : Nat) : Int) else -1
  | none => -1
theorem atF_end (c : Int) (y : List Int) (nx : Nat) (far : Int) : atF c y nx far y.length = -1 := by
  unfold atF
  rw [List.drop_of_length_le (Nat.le_refl _)]
  rfl
theorem atF_step (c : Int) (y : List Int) (nx : Nat) (far : Int) (j : Nat) (hj : j < y.length) : atF c y nx far j = if y[j] = c ∧ (j : Int) - (nx : Int) < far then (j : Int) else atF c y nx far (j + 1) := by
  unfold atF
  rw [List.drop_eq_getElem_cons hj, List.findIdx?_cons]
  by_cases e : y[j] = c
  · rw [if_pos (by simp [e])]
    by_cases f : (j : Int) - (nx : Int) < far
    · rw [if_pos ⟨e, f⟩]
      simp only [Nat.add_zero]
      rw [if_pos f]
    · rw [if_neg (fun h => f h.2)]
      simp only [Nat.add_zero]
      rw [if_neg f]
      split
      · rw [if_neg (by omega)]
      · rfl
  · rw [if_neg (by simp [e]), if_neg (fun h => e h.1)]
    cases h : (y.drop (j + 1)).findIdx? (fun z => z == c) with
    | none => rfl
    | some k =>
      simp only [Option.map_some]
      rw [show j + (k + 1) = j + 1 + k by omega]
theorem atF_gdn (c : Int) (y : List Int) (nx : Nat) (far : Int) : atF c y nx far nx = match gdn c y nx far with
    | some j => (j : Int)
    | none => -1 := by
  unfold atF gdn
  cases h : (y.drop nx).findIdx? (fun z => z == c) with
  | none => rfl
  | some k =>
    simp only
    by_cases f : (k : Int) < far
    · rw [if_pos (by omega), if_pos f]
    · rw [if_neg (by omega), if_neg f]
theorem atF_range (c : Int) (y : List Int) (nx : Nat) (far : Int) (j : Nat) : atF c y nx far j = -1 ∨ ∃ k : Nat, atF c y nx far j = (k : Int) ∧ k < y.length := by
  unfold atF
  split
  · rename_i k hk
    split
    · obtain ⟨h1, _⟩ := List.findIdx?_eq_some_iff_getElem.1 hk
      rw [List.length_drop] at h1
      exact .inr ⟨j + k, rfl, by omega⟩
    · exact .inl rfl
  · exact .inl rfl
/-- one member more -/
theorem gdy_atF (y : List Int) (far : Int) (nx : Nat) (c : Int) (x : List Int) {z : Int} (h : atF c y nx far nx = z) : gdy y far nx (c :: x) = z :: gdy y far (if 0 ≤ z then z.toNat + 1 else nx) x := by
  rw [gdy]
  rw [atF_gdn] at h
  split at h
  · rename_i j hj
    rw [hj]
    subst h
    rw [if_pos (Int.natCast_nonneg j)]
    rfl
  · rename_i hj
    rw [hj]
    subst h
    rw [if_neg (by omega)]
end Go.Proofs.Yteplejpbgajecaa

/- The reference's Greedy, walked. -/
namespace Go.Proofs.Yteplejpbgajecaa
open Go.RowKit

theorem gdy_hit {y : List Int} {far : Int} {nx k : Nat} {c : Int} {x X G : List Int} (h : X ++ gdy y far nx (c :: x) = G) (hz : atF c y nx far nx = (k : Int)) : X ++ [(k : Int)] ++ gdy y far (k + 1) x = G := by
  rw [← h, gdy_atF y far nx c x hz, if_pos (by omega), List.append_assoc]
  rfl
theorem gdy_miss {y : List Int} {far : Int} {nx : Nat} {c : Int} {x X G : List Int} (h : X ++ gdy y far nx (c :: x) = G) (hz : atF c y nx far nx = -1) : X ++ [-1] ++ gdy y far nx x = G := by
  rw [← h, gdy_atF y far nx c x hz, if_neg (by omega), List.append_assoc]
  rfl

set_option maxRecDepth 10000 in
set_option maxHeartbeats 4000000 in
theorem rGreedy_f (x y : List Int) (far : Int) (vx vy : Value) (w : World) (hx : HI w vx x) (hy : HI w vy y) (hxl : x.length ≤ 65536) (hyl : y.length ≤ 65536) (G : List Int) (hG : Hid (gdy y far 0 x = G)) :
    Calls Try.prog 14 #[vx, vy, .int .i64 far] w fun e w' => ∃ zo zc, e = .returned (.slice zo x.length zc) ∧ w'.ownsRow w.heap.size 3 1 (.slice zo x.length zc) x.length (icells G) ∧ Below w.heap.size w w' := by
  obtain ⟨xo, xc, rfl⟩ := Holds.form hx
  obtain ⟨yo, yc, rfl⟩ := Holds.form hy
  have HW0 : Hid (([] : List Int) ++ gdy y far 0 (x.drop 0) = G) := (by
    show _ = _
    rw [List.drop_zero, List.nil_append]
    exact hG.out)
  clear hG
  go_enter Try.func14, Try.ntmps14
  go_wp2
  go_loopw [7, 8, 9] (fun kv fv iv wr => ∃ (i nx : Nat) (X : List Int), i ≤ x.length ∧ nx ≤ y.length ∧ (∃ oo oc, kv = .slice oo i oc) ∧ Hid (X.length = i) ∧ fv = .int .i64 nx ∧ iv = .int .i64 i ∧ Below w.heap.size w wr ∧ wr.ownsRow w.heap.size 3 1 kv i (icells X) ∧ Hid (X ++ gdy y far nx (x.drop i) = G)) (fun _ _ iv _ => x.length - (intOf iv).toNat)
  case atStart => exact ⟨0, 0, [], Nat.zero_le _, Nat.zero_le _, ⟨_, _, rfl⟩, rfl, rfl, rfl, Below.refl _ w, World.ownsRow_nil _ _ _ _, HW0⟩
  case round =>
    clear HW0
    obtain ⟨i, nx, X, hi, hnx, ⟨oo, oc, rfl⟩, hXi, rfl, rfl, hB, hO, HW⟩ := hrel
    by_cases hlt : i < x.length
    · obtain ⟨c, hc⟩ : ∃ c, x[i] = c := ⟨_, rfl⟩
      have HC : Hid (x[i]'hlt = c) := hc
      have HW1 : Hid (X ++ gdy y far nx (c :: x.drop (i + 1)) = G) := (by
        have := HW.out
        rw [List.drop_eq_getElem_cons hlt, hc] at this
        exact this)
      clear hc HW
      have i1 : 0 ≤ (i : Int) := by omega
      have i2 : (i : Int) < (x.length : Int) := by omega
      go_wp2
      go_loopw [10, 11] (fun av jv wi => ∃ (j : Nat), nx ≤ j ∧ j ≤ y.length ∧ jv = .int .i64 ((j : Int) - 1) ∧ av = .int .i64 (atF c y nx far j) ∧ Below w.heap.size w wi ∧ wi.ownsRow w.heap.size 3 1 (.slice oo i oc) i (icells X)) (fun _ jv _ => (intOf jv + 1).toNat)
      case atStart => exact ⟨y.length, hnx, Nat.le_refl _, by go_num, by rw [atF_end], hB, hO⟩
      case round =>
        clear hB hO
        obtain ⟨j, hj1, hj2, rfl, rfl, hB, hO⟩ := hrel
        by_cases hjn : nx < j
        · obtain ⟨p, rfl⟩ : ∃ p, j = p + 1 := ⟨j - 1, by omega⟩
          have n0 : (((p + 1 : Nat) : Int) - 1) = (p : Int) := by omega
          rw [n0]
          have n1 : IntKind.i64.wrap ((p : Int) - (nx : Int)) = (p : Int) - (nx : Int) := by rw [IntKind.wrap_i64]; omega
          have j1 : (nx : Int) ≤ (p : Int) := by omega
          have j2 : 0 ≤ (p : Int) := by omega
          have j3 : (p : Int) < (y.length : Int) := by omega
          obtain ⟨xb, xf, rfl, _, hqx⟩ := HI.at (HI.keep hx hB (Nat.le_refl _)) (by omega)
          obtain ⟨yb, yf, rfl, _, hqy⟩ := HI.at (HI.keep hy hB (Nat.le_refl _)) (by omega)
          have x0 := hqx i hlt
          rw [HC.out] at x0
          have y0 := hqy p (by omega)
          obtain ⟨d, hd⟩ : ∃ d, y[p] = d := ⟨_, rfl⟩
          rw [hd] at y0
          have HS : Hid (atF c y nx far p = if d = c ∧ (p : Int) - (nx : Int) < far then (p : Int) else atF c y nx far (p + 1)) := (by
            rw [← hd]
            exact atF_step c y nx far p (by omega))
          clear hqx hqy hd
          generalize atF c y nx far (p + 1) = z at *
          by_cases hdc : d = c
          · subst hdc
            by_cases hpf : (p : Int) - (nx : Int) < far
            · have HS2 : Hid (atF d y nx far p = (p : Int)) := (by
                rw [if_pos ⟨rfl, hpf⟩] at HS
                exact HS)
              clear HS
              go_wp2_with fail
              go_quiet (fail)
              go_wp2
              go_roundw
              case rel => exact ⟨p, by omega, by omega, by go_num, by rw [HS2.out], Below.dN hB _, hO⟩
              case measure => simp [intOf]
            · have HS2 : Hid (atF d y nx far p = z) := (by
                rw [if_neg (fun h => hpf h.2)] at HS
                exact HS)
              have hpf' : decide ((p : Int) - (nx : Int) < far) = false := decide_eq_false hpf
              clear HS
              go_wp2_with fail
              go_quiet (fail)
              go_wp2
              go_roundw
              case rel => exact ⟨p, by omega, by omega, by go_num, by rw [HS2.out], Below.dN hB _, hO⟩
              case measure => simp [intOf]
          · have HS2 : Hid (atF c y nx far p = z) := (by
              rw [if_neg (fun h => hdc h.1)] at HS
              exact HS)
            have e1 : (d == c) = false := by simpa using hdc
            clear HS
            go_wp2_with fail
            go_quiet (fail)
            go_wp2
            go_roundw
            case rel => exact ⟨p, by omega, by omega, by go_num, by rw [HS2.out], Below.dN hB _, hO⟩
            case measure => simp [intOf]
        · obtain rfl : j = nx := by omega
          have hsz := hB.size
          have hr := atF_range c y j far j
          obtain ⟨z, hz⟩ : ∃ z, atF c y j far j = z := ⟨_, rfl⟩
          rw [hz] at hr ⊢
          have j1 : ¬ ((j : Int) ≤ (j : Int) - 1) := by omega
          have j2 : decide ((j : Int) ≤ (j : Int) - 1) = false := decide_eq_false j1
          have HZ : Hid (atF c y j far j = z) := hz
          clear hz
          rcases hr with rfl | ⟨k, rfl, hk⟩
          · have HW2 := (gdy_miss HW1.out HZ.out : Hid _)
            go_wp2_with (at_builtin; refine wpList_append_h _ (by kernel_rfl) (.tmp 43) (.tmp 45) 22 3 (.int .i64 0) 1 8 rfl Try.underlying22 infoInt rfl (by decide) (by decide) w.heap.size _ _ _ rfl (hO.alloc _) _ 1 (icells [-1]) rfl (new_holds _ _ _ _ _ (by decide)) rfl (icells_one _) (by omega) (by simp; omega) ?_)
            intro v2 w2 hown2 hgrow2
            have hB2 : Below w.heap.size w w2 := (hB.alloc (by omega) _).grown hgrow2 (by simp; omega) (fun _ hj => owns_ge hO hj)
            rw [← icells_append] at hown2
            obtain ⟨oo2, oc2, rfl⟩ := (holds_of hown2).form
            clear hgrow2
            go_wp2
            go_roundw
            case rel => exact ⟨i + 1, j, X ++ [-1], by omega, hnx, ⟨_, _, rfl⟩, (by show _ = _; rw [List.length_append, hXi.out]; rfl), by go_num, by go_num, hB2, hown2, HW2⟩
            case measure => simp [intOf]; omega
          · have HW2 := (gdy_hit HW1.out HZ.out : Hid _)
            have k1 : (0 : Int) ≤ (k : Int) := by omega
            go_wp2_with (at_builtin; refine wpList_append_h _ (by kernel_rfl) (.tmp 43) (.tmp 45) 22 3 (.int .i64 0) 1 8 rfl Try.underlying22 infoInt rfl (by decide) (by decide) w.heap.size _ _ _ rfl (hO.alloc _) _ 1 (icells [(k : Int)]) rfl (new_holds _ _ _ _ _ (by decide)) rfl (icells_one _) (by omega) (by simp; omega) ?_)
            intro v2 w2 hown2 hgrow2
            have hB2 : Below w.heap.size w w2 := (hB.alloc (by omega) _).grown hgrow2 (by simp; omega) (fun _ hj => owns_ge hO hj)
            rw [← icells_append] at hown2
            obtain ⟨oo2, oc2, rfl⟩ := (holds_of hown2).form
            clear hgrow2
            go_wp2
            go_roundw
            case rel => exact ⟨i + 1, k + 1, X ++ [(k : Int)], by omega, by omega, ⟨_, _, rfl⟩, (by show _ = _; rw [List.length_append, hXi.out]; rfl), by go_num, by go_num, hB2, hown2, HW2⟩
            case measure => simp [intOf]; omega
    · obtain rfl : i = x.length := by omega
      have e : X = G := by
        have := HW.out
        rw [List.drop_of_length_le (Nat.le_refl _), gdy, List.append_nil] at this
        exact this
      subst e
      clear HW
      go_wp2
      go_ret
      exact ⟨_, _, rfl, hO, hB⟩
end Go.Proofs.Yteplejpbgajecaa
