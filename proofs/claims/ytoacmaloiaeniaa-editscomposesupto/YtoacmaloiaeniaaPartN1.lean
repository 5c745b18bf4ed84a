/-
  Texts that belong together, joined: EdRCo.
-/
import Derived.Test.YtoacmaloiaeniaaPartI1

/- Two scripts one behind the other: Compose of the reference, walked. -/
namespace Go.Proofs.Ytoacmaloiaeniaa
open Go.RowKit

theorem rCompose_no (x y : List Ch) (n m k : Int) (vx vy : Value) (w : World) (hx : HCh w vx x) (hy : HCh w vy y) (hS : ¬ (Script x n m ∧ Script y m k)) (hn : n ≤ 65536) (hm : m ≤ 65536) (hk : k ≤ 65536) (hxl : x.length ≤ 1048576) (hyl : y.length ≤ 1048576) :
    Calls Try.prog 24 #[vx, vy, .int .i64 n, .int .i64 m, .int .i64 k] w fun e w' => e = .returned (.tuple #[.slice none 0 0, .int .i64 50]) ∧ Below w.heap.size w w' := by
  obtain ⟨xo, xc, rfl⟩ := Holds.form hx
  obtain ⟨yo, yc, rfl⟩ := Holds.form hy
  by_cases hX : Script x n m
  · have hY : ¬ Script y m k := fun h => hS ⟨hX, h⟩
    have HX : Hid (Script x n m) := hX
    have HY : Hid (¬ Script y m k) := hY
    clear hS hX hY
    go_enter Try.func24, Try.ntmps24
    go_wp2_with fail
    refine (rKeep_ok x n m _ w hx HX.out (by omega) (by omega) hxl).mono ?_
    rintro e w1 ⟨v1, rfl, h1, hB1⟩
    obtain ⟨o1, c1, rfl⟩ := Holds.form h1
    go_wp2_with fail
    refine (rKeep_no y m k _ w1 (HCh.keep hy hB1 (Nat.le_refl _)) HY.out (by omega) (by omega) hyl).mono ?_
    rintro e w2 ⟨rfl, hB2⟩
    have hB2' := hB1.trans (hB2.mono hB1.size)
    go_wp2
    go_ret2
    exact ⟨rfl, hB2'⟩
  · have HX : Hid (¬ Script x n m) := hX
    clear hS hX
    go_enter Try.func24, Try.ntmps24
    go_wp2_with fail
    refine (rKeep_no x n m _ w hx HX.out (by omega) (by omega) hxl).mono ?_
    rintro e w1 ⟨rfl, hB1⟩
    go_wp2
    go_ret2
    exact ⟨rfl, hB1⟩

set_option maxRecDepth 10000 in
set_option maxHeartbeats 4000000 in
theorem rCompose_f (x y L : List Ch) (n m k : Int) (vx vy : Value) (w : World) (hx : HCh w vx x) (hy : HCh w vy y) (hX : Hid (Script x n m)) (hY : Hid (Script y m k)) (hn : n ≤ 65536) (hm : m ≤ 65536) (hk : k ≤ 65536) (hxl : x.length ≤ 1048576) (hyl : y.length ≤ 1048576) (hL : Hid (compS x y n m k = L)) :
    Calls Try.prog 24 #[vx, vy, .int .i64 n, .int .i64 m, .int .i64 k] w fun e w' => ∃ v', e = .returned (.tuple #[v', .int .i64 0]) ∧ HCh w' v' L ∧ Below w.heap.size w w' := by
  obtain ⟨xo, xc, rfl⟩ := Holds.form hx
  obtain ⟨yo, yc, rfl⟩ := Holds.form hy
  obtain ⟨p, hp⟩ : ∃ p, keepL x n m = p := ⟨_, rfl⟩
  obtain ⟨q, hq⟩ : ∃ q, keepL y m k = q := ⟨_, rfl⟩
  have hn0 := hX.out.1
  have hm0 := hX.out.2.1
  have hk0 := hY.out.2.1
  have hpl : p.length = n.toNat := by rw [← hp]; have := kr_length hX.out.2.2; rw [Int.sub_zero] at this; exact this
  have hql : q.length = m.toNat := by rw [← hq]; have := kr_length hY.out.2.2; rw [Int.sub_zero] at this; exact this
  have hpe : ∀ z ∈ p, z = -1 ∨ (0 ≤ z ∧ z < m) := by rw [← hp]; exact kr_each hX.out.2.2 (Int.le_refl _)
  have hqe : ∀ z ∈ q, z = -1 ∨ (0 ≤ z ∧ z < k) := by rw [← hq]; exact kr_each hY.out.2.2 (Int.le_refl _)
  obtain ⟨K, hK⟩ : ∃ K, compK p q = K := ⟨_, rfl⟩
  have hKl : K.length = n.toNat := by rw [← hK, ← hpl]; simp [compK]
  have hkept : keptR 0 K = compP x y n m k := by rw [← hK, ← hp, ← hq]; exact compK_kept hX.out hY.out
  have hV : Hid (Vk 0 k K) := (by
    have := comp_fit hX.out hY.out
    rw [← hkept] at this
    exact vk_of_fit this)
  have HL : Hid (mkL K k = L) := (by
    show _ = _
    rw [← hL.out, (comp_spec hX.out hY.out).2.2]
    unfold mkL
    rw [hkept, hKl]
    congr 3
    have : ((n.toNat : Nat) : Int) = n := by omega
    rw [this])
  have HK : Hid (compK p q = K) := hK
  have Hp : Hid (p.length = n.toNat ∧ ∀ z ∈ p, z = -1 ∨ (0 ≤ z ∧ z < m)) := ⟨hpl, hpe⟩
  have Hq : Hid (q.length = m.toNat ∧ ∀ z ∈ q, z = -1 ∨ (0 ≤ z ∧ z < k)) := ⟨hql, hqe⟩
  have HKl : Hid (K.length = n.toNat) := hKl
  have Hpe : Hid (keepL x n m = p) := hp
  have Hqe : Hid (keepL y m k = q) := hq
  clear hp hq hpl hql hpe hqe hK hKl hkept
  go_enter Try.func24, Try.ntmps24
  go_wp2_with fail
  refine (rKeep_ok x n m _ w hx hX.out (by omega) (by omega) hxl).mono ?_
  rintro e w1 ⟨v1, rfl, h1, hB1⟩
  rw [Hpe.out] at h1
  obtain ⟨o1, c1, rfl⟩ := Holds.form h1
  go_wp2_with fail
  refine (rKeep_ok y m k _ w1 (HCh.keep hy hB1 (Nat.le_refl _)) hY.out (by omega) (by omega) hyl).mono ?_
  rintro e w2 ⟨v2, rfl, h2, hB2⟩
  rw [Hqe.out] at h2
  obtain ⟨o2, c2, rfl⟩ := Holds.form h2
  have hB2' := hB1.trans (hB2.mono hB1.size)
  have h12 : HI w2 (.slice o1 p.length c1) p := HI.keep h1 hB2 (Nat.le_refl _)
  have hpl : p.length ≤ 65536 := by have := Hp.out.1; omega
  have hql : q.length ≤ 65536 := by have := Hq.out.1; omega
  go_wp2
  go_loopw [15, 16] (fun kv iv wr => ∃ (i : Nat) (Z : List Int) (zo : Option Addr) (zc : Nat), i ≤ p.length ∧ Z.length = i ∧ iv = .int .i64 i ∧ kv = .slice zo i zc ∧ wr.ownsRow w2.heap.size 3 1 (.slice zo i zc) i (icells Z) ∧ Below w2.heap.size w2 wr ∧ Hid (Z = compK (p.take i) q)) (fun _ iv _ => p.length - (intOf iv).toNat)
  case atStart => exact ⟨0, [], none, 0, Nat.zero_le _, rfl, rfl, rfl, World.ownsRow_nil _ _ _ _, Below.refl _ _, (by show _ = _; simp [compK])⟩
  case round =>
    obtain ⟨i, Z, zo, zc, hi, hZl, rfl, rfl, hO, hB, HZ⟩ := hrel
    have hs := hB.size
    by_cases hil : i < p.length
    · obtain ⟨b1, f1, rfl, _, hc1⟩ := HI.at (HI.keep h12 hB (Nat.le_refl _)) (by omega)
      have e1 := hc1 i hil
      obtain ⟨z, hz⟩ : ∃ z, p[i] = z := ⟨_, rfl⟩
      rw [hz] at e1
      have hzz := Hp.out.2 z (by rw [← hz]; exact List.getElem_mem _)
      have HZ2 : Hid (Z ++ [if 0 ≤ z then q.getD z.toNat (-1) else -1] = compK (p.take (i + 1)) q) := (by
        show _ = _
        rw [HZ.out, List.take_succ_eq_append_getElem hil, hz]
        simp [compK])
      clear hc1 HZ
      by_cases hz0 : 0 ≤ z
      · obtain ⟨zn, rfl⟩ : ∃ zn : Nat, z = (zn : Int) := ⟨z.toNat, by omega⟩
        have hzl : zn < q.length := by have := Hq.out.1; omega
        obtain ⟨b2, f2, rfl, _, hc2⟩ := HI.at (HI.keep h2 hB (Nat.le_refl _)) (by omega)
        have e2 := hc2 zn hzl
        obtain ⟨y2, hy2⟩ : ∃ z, q[zn] = z := ⟨_, rfl⟩
        rw [hy2] at e2
        have HZ3 : Hid (Z ++ [y2] = compK (p.take (i + 1)) q) := (by
          show _ = _
          rw [← HZ2.out, if_pos hz0, Int.toNat_natCast, List.getD_eq_getElem?_getD, List.getElem?_eq_getElem hzl, hy2]
          rfl)
        clear hc2 HZ2 hz hy2
        go_wp2_with (at_builtin; refine wpList_append_h _ (by kernel_rfl) (.tmp 48) (.tmp 56) 26 3 (.int .i64 0) 1 8 rfl Try.underlying26 infoInt rfl (by decide) (by decide) w2.heap.size (.slice zo i zc) i (icells Z) (by kernel_rfl) (hO.alloc _) (.slice (some ⟨wr.heap.size, 0, none⟩) 1 1) 1 (icells [y2]) (by kernel_rfl) (new_holds wr _ _ 1 1 (by decide)) rfl (icells_one _) (by omega) (by simp; omega) ?_)
        intro v3 w3 hown3 hgrow3
        have hB3 : Below w2.heap.size w2 w3 := (hB.alloc (by omega) _).grown hgrow3 (by simp; omega) (fun _ hj => owns_ge hO hj)
        rw [← icells_append] at hown3
        obtain ⟨zo3, zc3, rfl⟩ := (holds_of hown3).form
        clear hgrow3
        go_wp2
        go_roundw
        case rel => exact ⟨i + 1, Z ++ [y2], zo3, zc3, hil, by simp [hZl], by go_num, rfl, hown3, hB3, HZ3⟩
        case measure => simp [intOf]; omega
      · obtain rfl : z = -1 := by omega
        have HZ3 : Hid (Z ++ [-1] = compK (p.take (i + 1)) q) := (by
          show _ = _
          rw [← HZ2.out, if_neg hz0])
        clear HZ2 hz
        go_wp2_with (at_builtin; refine wpList_append_h _ (by kernel_rfl) (.tmp 58) (.tmp 59) 26 3 (.int .i64 0) 1 8 rfl Try.underlying26 infoInt rfl (by decide) (by decide) w2.heap.size (.slice zo i zc) i (icells Z) (by kernel_rfl) (hO.alloc _) (.slice (some ⟨wr.heap.size, 0, none⟩) 1 1) 1 (icells [-1]) (by kernel_rfl) (new_holds wr _ _ 1 1 (by decide)) rfl (icells_one _) (by omega) (by simp; omega) ?_)
        intro v3 w3 hown3 hgrow3
        have hB3 : Below w2.heap.size w2 w3 := (hB.alloc (by omega) _).grown hgrow3 (by simp; omega) (fun _ hj => owns_ge hO hj)
        rw [← icells_append] at hown3
        obtain ⟨zo3, zc3, rfl⟩ := (holds_of hown3).form
        clear hgrow3
        go_wp2
        go_roundw
        case rel => exact ⟨i + 1, Z ++ [-1], zo3, zc3, hil, by simp [hZl], by go_num, rfl, hown3, hB3, HZ3⟩
        case measure => simp [intOf]; omega
    · obtain rfl : i = p.length := by omega
      have hZK : Z = K := by rw [HZ.out, List.take_length, HK.out]
      subst hZK
      have hZ' : HI wr (.slice zo p.length zc) Z := by
        have := holds_of hO
        unfold HI
        rw [hZl]
        exact this
      have hZb : Z.length ≤ 65536 := by omega
      rw [← hZl] at *
      clear hO
      go_wp2_with fail
      refine (rMake_f Z k L _ wr hZ' (by omega) hV hk0 (by omega) HL).mono ?_
      rintro e w3 ⟨v3, rfl, h3, hB3⟩
      obtain ⟨o3, c3, rfl⟩ := Holds.form h3
      have hB3' := (hB2'.trans (hB.mono hB2'.size)).trans (hB3.mono (Nat.le_trans hB2'.size hs))
      go_wp2
      go_ret2
      exact ⟨_, rfl, h3, hB3'⟩
end Go.Proofs.Ytoacmaloiaeniaa
