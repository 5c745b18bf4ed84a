/-
  Texts that belong together, joined: EdDrew, EdRKp.
-/
import Derived.Test.YtoacmaloiaeniaaPartA1
import Derived.Test.YtoacmaloiaeniaaPartB1
import Derived.Test.YtoacmaloiaeniaaPartC1

/- Worlds behind a draw: new rows and what is carried. -/
namespace Go.Proofs.Ytoacmaloiaeniaa
open Go.RowKit
attribute [local simp] low_drew

theorem new_holds_d (W : World) (cs : Array Value) (e : TypeId) (k c : Nat) (hkc : k ≤ c) : Holds (W.alloc (.cells cs e)).drew (.slice (some ⟨W.heap.size, 0, none⟩) k c) k cs.toList := by
  have := new_holds W cs e k c hkc
  exact this
theorem st_d {W : World} {e : TypeId} {s : Nat} {v : Value} {k : Nat} {xs : List Value} {w : World} (o : Obj) (h : St W e s v k xs w) : St W e s v k xs (w.alloc o).drew := (st_drew _ _ _ _ _ _ _).2 (st_alloc o h)
theorem alloc_second (w : World) (o o2 : Obj) : ((w.alloc o).alloc o2).heap[w.heap.size + 1]? = some o2 := by
  have h := _root_.Go.heap_alloc_new (w.alloc o) o2
  rw [World.size_alloc] at h
  exact h
theorem owns_d {W : World} {base : Nat} {e : TypeId} {s : Nat} {v : Value} {n : Nat} {xs : List Value} (h : W.ownsRow base e s v n xs) (o : Obj) : (W.alloc o).drew.ownsRow base e s v n xs := by
  have := h.alloc o
  exact this
end Go.Proofs.Ytoacmaloiaeniaa

/- What a script keeps: the reference's Keep, walked. -/
namespace Go.Proofs.Ytoacmaloiaeniaa
open Go.RowKit

theorem drop_of_at {Z : List Int} {j : Nat} {z : Int} (h : Z[j]? = some z) : Z.drop j = z :: Z.drop (j + 1) := by
  obtain ⟨hl, rfl⟩ := List.getElem?_eq_some_iff.1 h
  exact List.drop_eq_getElem_cons hl
theorem kr_at_nil {a b n m : Int} {j : Nat} (h : (j : Int) < n - a) : (kr a b n m [])[j]? = some (b + j) := by
  rw [kr_nil, List.getElem?_map, List.getElem?_range (by omega)]
  rfl
theorem kr_at_keep {a b n m : Int} {c : Ch} {l : List Ch} {j : Nat} (h : (j : Int) < c.A - a) : (kr a b n m (c :: l))[j]? = some (b + j) := by
  rw [kr_cons, List.append_assoc, List.getElem?_append_left (by simp; omega), List.getElem?_map, List.getElem?_range (by omega)]
  rfl
theorem kr_at_out {a b n m : Int} {c : Ch} {l : List Ch} {j : Nat} (h0 : a ≤ c.A) (h : c.A - a ≤ (j : Int)) (h2 : (j : Int) < c.A - a + c.AN) : (kr a b n m (c :: l))[j]? = some (-1) := by
  rw [kr_cons, List.append_assoc, List.getElem?_append_right (by simp; omega), List.getElem?_append_left (by simp; omega), List.getElem?_replicate_of_lt (by simp; omega)]
theorem kr_past {a b n m : Int} {c : Ch} {l : List Ch} {j : Nat} (h0 : a ≤ c.A) (h1 : 0 ≤ c.AN) (h : (j : Int) = c.A - a + c.AN) : (kr a b n m (c :: l)).drop j = kr (c.A + c.AN) (c.B + c.BN) n m l := by
  rw [kr_cons, List.drop_append_of_le_length (by simp; omega), List.drop_of_length_le (by simp; omega), List.nil_append]

theorem rKeep_no (l : List Ch) (n m : Int) (v : Value) (w : World) (hl : HCh w v l) (hS : ¬ Script l n m) (hn : n ≤ 9223372036854775807) (hm : m ≤ 9223372036854775807) (hlen : l.length ≤ 1048576) :
    Calls Try.prog 13 #[v, .int .i64 n, .int .i64 m] w fun e w' => e = .returned (.tuple #[.slice none 0 0, .int .i64 50]) ∧ Below w.heap.size w w' := by
  obtain ⟨ao, ca, rfl⟩ := Holds.form hl
  go_enter Try.func13, Try.ntmps13
  go_wp2_with fail
  refine (rCheck_f l n m 50 _ w hl (by omega) hn hm (chk_no hS)).mono ?_
  rintro e w1 ⟨rfl, hB⟩
  go_wp2
  go_ret2
  exact ⟨rfl, hB⟩

set_option maxRecDepth 10000 in
set_option maxHeartbeats 4000000 in
theorem rKeep_ok (l : List Ch) (n m : Int) (v : Value) (w : World) (hl : HCh w v l) (hS : Script l n m) (hn : n ≤ 65536) (hm : m ≤ 4611686018427387904) (hlen : l.length ≤ 1048576) :
    Calls Try.prog 13 #[v, .int .i64 n, .int .i64 m] w fun e w' => ∃ v', e = .returned (.tuple #[v', .int .i64 0]) ∧ HI w' v' (keepL l n m) ∧ Below w.heap.size w w' := by
  obtain ⟨ao, ca, rfl⟩ := Holds.form hl
  have hn0 := hS.1
  have hm0 := hS.2.1
  have HS : Hid (Script l n m) := hS
  clear hS
  obtain ⟨N, rfl⟩ : ∃ N : Nat, n = (N : Int) := ⟨n.toNat, by omega⟩
  obtain ⟨Z, hZ⟩ : ∃ Z, keepL l N m = Z := ⟨_, rfl⟩
  rw [hZ]
  have HZ : Hid (kr 0 0 N m l = Z) := hZ
  clear hZ
  go_enter Try.func13, Try.ntmps13
  go_wp2_with fail
  refine (rCheck_f l N m 0 _ w hl (by omega) (by omega) (by omega) (chk_ok HS.out)).mono ?_
  rintro e w0 ⟨rfl, hB0⟩
  go_wp2
  go_loopw [8, 9, 10, 11] (fun kv bv kk iv wr => ∃ (i k : Nat) (a0 b0 b : Int) (X : List Int), i ≤ N ∧ k ≤ l.length ∧ (∃ oo oc, kv = .slice oo X.length oc) ∧ bv = .int .i64 b ∧ kk = .int .i64 k ∧ iv = .int .i64 i ∧ 0 ≤ a0 ∧ a0 ≤ i ∧ 0 ≤ b0 ∧ 0 ≤ b ∧ b ≤ 4611686018427387904 ∧ Below w.heap.size w wr ∧ wr.ownsRow w.heap.size 3 1 kv X.length (icells X) ∧ X.length ≤ i ∧ Hid (Right (decide (k = 0)) a0 b0 N m (l.drop k) ∧ X ++ (kr a0 b0 N m (l.drop k)).drop (i - a0).toNat = Z ∧ (∀ c r, l.drop k = c :: r → (i : Int) ≤ c.A + c.AN ∧ ((i : Int) ≤ c.A → b = b0 + (i - a0))) ∧ (l.drop k = [] → b = b0 + (i - a0)))) (fun _ _ _ iv _ => N - (intOf iv).toNat)
  case atStart =>
    refine ⟨0, 0, 0, 0, 0, [], Nat.zero_le _, Nat.zero_le _, ⟨_, _, rfl⟩, rfl, rfl, rfl, by omega, by omega, by omega, by omega, by omega, hB0, World.ownsRow_nil _ _ _ _, Nat.zero_le _, (?_ : _ ∧ _ ∧ _ ∧ _)⟩
    refine ⟨HS.out.2.2, by simpa using HZ.out, fun c r h => ?_, fun _ => by omega⟩
    have hR := HS.out.2.2
    rw [List.drop_zero] at h
    rw [h] at hR
    have h1 := hR.1.1
    rw [numB_iff] at h1
    exact ⟨by omega, fun _ => by omega⟩
  case round =>
    obtain ⟨i, k, a0, b0, b, X, hi, hk, ⟨oo, oc, rfl⟩, rfl, rfl, rfl, ha0, hai, hb0, hb1, hb2, hB, hO, hX, hR⟩ := hrel
    have hsz := hB.size
    by_cases hlt : i < N
    · have j1 : (i : Int) < (N : Int) := by omega
      by_cases hkl : k < l.length
      · obtain ⟨bk, off, rfl, hbk, hc⟩ := HCh.at (HCh.keep hl hB (Nat.le_refl _)) (by omega)
        obtain ⟨c0, c1, c2, c3⟩ := hc k hkl
        have hR' := hR.out
        rw [List.drop_eq_getElem_cons hkl] at hR'
        obtain ⟨c, hcd⟩ : ∃ c, l[k] = c := ⟨_, rfl⟩
        rw [hcd] at hR' c0 c1 c2 c3
        have HC : Hid (l[k] = c) := hcd
        obtain ⟨q1, q2, q3, _⟩ := hR'
        obtain ⟨q5, q6⟩ := q3 c _ rfl
        have hnum := q1.1.1
        rw [numB_iff] at hnum
        have hle := q1.2.le
        have hgap := q1.1.2.1
        have hAa := q1.1.2.2.1
        clear hcd hR
        obtain ⟨A, AN, B, BN⟩ := c
        dsimp only at c0 c1 c2 c3 q5 q6 hnum hle hgap hAa
        obtain ⟨⟨hA0, hA1⟩, ⟨hAN0, hAN1⟩, ⟨hB0', hB1'⟩, ⟨hBN0, hBN1⟩, hpos⟩ := hnum
        obtain ⟨hle1, hle2, _⟩ := hle
        have j2 : 0 ≤ (k : Int) := by omega
        have j3 : (k : Int) < (l.length : Int) := by omega
        by_cases hin : (i : Int) < A + AN
        · have hw1 : IntKind.i64.wrap (A + AN) = A + AN := wrap_small _ (by omega) (by omega)
          by_cases hge : A ≤ (i : Int)
          · have HN : Hid (Right (decide (k = 0)) a0 b0 N m (l.drop k) ∧ X ++ [-1] ++ (kr a0 b0 N m (l.drop k)).drop ((i + 1 : Nat) - a0).toNat = Z ∧ (∀ c r, l.drop k = c :: r → ((i + 1 : Nat) : Int) ≤ c.A + c.AN ∧ (((i + 1 : Nat) : Int) ≤ c.A → b = b0 + (((i + 1 : Nat) : Int) - a0))) ∧ (l.drop k = [] → b = b0 + (((i + 1 : Nat) : Int) - a0))) := (by
              rw [List.drop_eq_getElem_cons hkl, HC.out]
              refine ⟨q1, ?_, fun c r h => (by cases h; exact ⟨by dsimp only; omega, fun h => by dsimp only at h; omega⟩), fun h => by cases h⟩
              rw [← q2, drop_of_at (kr_at_out (b := b0) (n := N) (m := m) (c := ⟨A, AN, B, BN⟩) (j := ((i : Int) - a0).toNat) hAa (by dsimp only; omega) (by dsimp only; omega)), List.append_assoc]
              rw [show ((i + 1 : Nat) - a0).toNat = ((i : Int) - a0).toNat + 1 by omega]
              rfl)
            clear q1 q2 q3 q5 q6 hc
            go_wp2_with fail
            refine wp_loop_rounds 1 ?_
            rw [rounds_succ]
            go_wp2_with fail
            go_quiet (fail)
            obtain ⟨wq, hwq⟩ : ∃ wq, wr.drewN nq = wq := ⟨_, rfl⟩
            have hOq : wq.ownsRow w.heap.size 3 1 (.slice oo X.length oc) X.length (icells X) := by rw [← hwq]; exact hO
            have hBq : Below w.heap.size w wq := by rw [← hwq]; exact Below.dN hB _
            have hsq := hBq.size
            rw [hwq]
            have e0 : wq.cell? ⟨bk, off + k * 4, none⟩ = some (.int .i64 A) := by rw [← hwq]; exact c0
            clear hwq
            go_wp2_with (at_builtin; refine wpList_append_h _ (by kernel_rfl) (.tmp 67) (.tmp 68) 26 3 (.int .i64 0) 1 8 rfl Try.underlying26 infoInt rfl (by decide) (by decide) w.heap.size _ _ _ rfl (hOq.alloc _) _ 1 (icells [-1]) rfl (new_holds _ _ _ _ _ (by decide)) rfl (icells_one _) (by omega) (by simp; omega) ?_)
            intro v2 w2 hown2 hgrow2
            have hB2 : Below w.heap.size w w2 := (hBq.alloc (by omega) _).grown hgrow2 (by simp; omega) (fun _ hj => owns_ge hO hj)
            rw [← icells_append] at hown2
            obtain ⟨oo2, oc2, rfl⟩ := (holds_of hown2).form
            clear hgrow2
            go_wp2
            go_roundw
            case rel => exact ⟨i + 1, k, a0, b0, b, X ++ [-1], by omega, by omega, ⟨_, _, by rw [List.length_append]; rfl⟩, by go_num, by go_num, by go_num, by omega, by omega, by omega, by omega, by omega, hB2, by rw [List.length_append]; exact hown2, by simp; omega, HN⟩
            case measure => simp [intOf]; omega
          · have hbe : b = b0 + ((i : Int) - a0) := q6 (by omega)
            have hbm : b + 1 ≤ 4611686018427387904 := by omega
            have HN : Hid (Right (decide (k = 0)) a0 b0 N m (l.drop k) ∧ X ++ [b] ++ (kr a0 b0 N m (l.drop k)).drop ((i + 1 : Nat) - a0).toNat = Z ∧ (∀ c r, l.drop k = c :: r → ((i + 1 : Nat) : Int) ≤ c.A + c.AN ∧ (((i + 1 : Nat) : Int) ≤ c.A → b + 1 = b0 + (((i + 1 : Nat) : Int) - a0))) ∧ (l.drop k = [] → b + 1 = b0 + (((i + 1 : Nat) : Int) - a0))) := (by
              rw [List.drop_eq_getElem_cons hkl, HC.out]
              refine ⟨q1, ?_, fun c r h => (by cases h; exact ⟨by dsimp only; omega, fun h => by omega⟩), fun h => by cases h⟩
              rw [← q2, drop_of_at (kr_at_keep (b := b0) (n := N) (m := m) (c := ⟨A, AN, B, BN⟩) (j := ((i : Int) - a0).toNat) (by dsimp only; omega)), List.append_assoc]
              rw [show ((i + 1 : Nat) - a0).toNat = ((i : Int) - a0).toNat + 1 by omega, show b = b0 + ((((i : Int) - a0).toNat : Nat) : Int) by omega]
              rfl)
            clear q1 q2 q3 q5 q6 hc hbe
            have hge' : (i : Int) < A := by omega
            go_wp2_with fail
            refine wp_loop_rounds 1 ?_
            rw [rounds_succ]
            go_wp2_with fail
            go_quiet (fail)
            obtain ⟨wq, hwq⟩ : ∃ wq, wr.drewN nq = wq := ⟨_, rfl⟩
            have hOq : wq.ownsRow w.heap.size 3 1 (.slice oo X.length oc) X.length (icells X) := by rw [← hwq]; exact hO
            have hBq : Below w.heap.size w wq := by rw [← hwq]; exact Below.dN hB _
            have hsq := hBq.size
            rw [hwq]
            have e0 : wq.cell? ⟨bk, off + k * 4, none⟩ = some (.int .i64 A) := by rw [← hwq]; exact c0
            clear hwq
            go_wp2_with (at_builtin; refine wpList_append_h _ (by kernel_rfl) (.tmp 70) (.tmp 72) 26 3 (.int .i64 0) 1 8 rfl Try.underlying26 infoInt rfl (by decide) (by decide) w.heap.size _ _ _ rfl (hOq.alloc _) _ 1 (icells [b]) rfl (new_holds _ _ _ _ _ (by decide)) rfl (icells_one _) (by omega) (by simp; omega) ?_)
            intro v2 w2 hown2 hgrow2
            have hB2 : Below w.heap.size w w2 := (hBq.alloc (by omega) _).grown hgrow2 (by simp; omega) (fun _ hj => owns_ge hO hj)
            rw [← icells_append] at hown2
            obtain ⟨oo2, oc2, rfl⟩ := (holds_of hown2).form
            clear hgrow2
            go_wp2
            go_roundw
            case rel => exact ⟨i + 1, k, a0, b0, b + 1, X ++ [b], by omega, by omega, ⟨_, _, by rw [List.length_append]; rfl⟩, by go_num, by go_num, by go_num, by omega, by omega, by omega, by omega, by omega, hB2, by rw [List.length_append]; exact hown2, by simp; omega, HN⟩
            case measure => simp [intOf]; omega
        · have hie : (i : Int) = A + AN := by omega
          have h7 := q1.2
          dsimp only at h7
          have hw1 : IntKind.i64.wrap (A + AN) = A + AN := wrap_small _ (by omega) (by omega)
          have hw2 : IntKind.i64.wrap (B + BN) = B + BN := wrap_small _ (by omega) (by omega)
          have hw3 : IntKind.i64.wrap ((k : Int) + 1) = ((k + 1 : Nat) : Int) := by rw [wrap_small _ (by omega) (by omega)]; omega
          have hZ1 : X ++ kr (A + AN) (B + BN) N m (l.drop (k + 1)) = Z := by
            rw [← q2, kr_past (c := ⟨A, AN, B, BN⟩) hAa hAN0 (by dsimp only; omega)]
          by_cases hk2 : k + 1 < l.length
          · obtain ⟨d0, d1, _, _⟩ := hc (k + 1) hk2
            rw [List.drop_eq_getElem_cons hk2] at h7 hZ1
            obtain ⟨c', hcd'⟩ : ∃ c', l[k + 1] = c' := ⟨_, rfl⟩
            rw [hcd'] at h7 hZ1 d0 d1
            have HC' : Hid (l[k + 1] = c') := hcd'
            clear hcd'
            have hnum' := h7.1.1
            rw [numB_iff] at hnum'
            have hle' := h7.2.le
            have hgap' := h7.1.2.1
            have hlt' : A + AN < c'.A := by rcases h7.1.2.2.2 with h | h; cases h; exact h
            obtain ⟨A', AN', B', BN'⟩ := c'
            dsimp only at d0 d1 hnum' hle' hgap' hlt'
            obtain ⟨⟨hA0', hA1'⟩, ⟨hAN0', hAN1'⟩, ⟨hB2', hB3'⟩, ⟨hBN0', hBN1'⟩, hpos'⟩ := hnum'
            obtain ⟨hle1', hle2', _⟩ := hle'
            have hw4 : IntKind.i64.wrap (A' + AN') = A' + AN' := wrap_small _ (by omega) (by omega)
            have hbm : B + BN + 1 ≤ 4611686018427387904 := by omega
            have HN : Hid (Right (decide (k + 1 = 0)) (A + AN) (B + BN) N m (l.drop (k + 1)) ∧ X ++ [B + BN] ++ (kr (A + AN) (B + BN) N m (l.drop (k + 1))).drop ((i + 1 : Nat) - (A + AN)).toNat = Z ∧ (∀ c r, l.drop (k + 1) = c :: r → ((i + 1 : Nat) : Int) ≤ c.A + c.AN ∧ (((i + 1 : Nat) : Int) ≤ c.A → B + BN + 1 = B + BN + (((i + 1 : Nat) : Int) - (A + AN)))) ∧ (l.drop (k + 1) = [] → B + BN + 1 = B + BN + (((i + 1 : Nat) : Int) - (A + AN)))) := (by
              rw [List.drop_eq_getElem_cons hk2, HC'.out]
              refine ⟨h7, ?_, fun c r h => (by cases h; exact ⟨by dsimp only; omega, fun h => by omega⟩), fun h => by cases h⟩
              have h0 := drop_of_at (kr_at_keep (a := A + AN) (b := B + BN) (n := N) (m := m) (c := ⟨A', AN', B', BN'⟩) (l := l.drop (k + 1 + 1)) (j := 0) (by dsimp only; omega))
              rw [List.drop_zero] at h0
              rw [← hZ1, show ((i + 1 : Nat) - (A + AN)).toNat = 1 by omega, List.append_assoc, h0]
              simp)
            clear q1 q2 q3 q5 q6 hc h7 hZ1
            have j4 : (k : Int) + 1 < (l.length : Int) := by omega
            have j6 : 0 ≤ (k : Int) + 1 := by omega
            have j7 : ((k : Int) + 1).toNat = k + 1 := by omega
            have j8 : (i : Int) < A' + AN' := by omega
            have j9 : (i : Int) < A' := by omega
            have j5 : A + AN ≤ (i : Int) := by omega
            have HI : Hid ((i : Int) = A + AN) := hie
            clear hie
            go_wp2_with fail
            refine wp_loop_rounds 2 ?_
            rw [rounds_succ]
            go_wp2_with fail
            go_quiet (fail)
            obtain ⟨wp, hwp⟩ : ∃ wp, wr.drewN nq = wp := ⟨_, rfl⟩
            have hOp : wp.ownsRow w.heap.size 3 1 (.slice oo X.length oc) X.length (icells X) := by rw [← hwp]; exact hO
            have hBp : Below w.heap.size w wp := by rw [← hwp]; exact Below.dN hB _
            have hsp := hBp.size
            rw [hwp]
            have p2 : wp.cell? ⟨bk, off + k * 4 + 2, none⟩ = some (.int .i64 B) := by rw [← hwp]; exact c2
            have p3 : wp.cell? ⟨bk, off + k * 4 + 3, none⟩ = some (.int .i64 BN) := by rw [← hwp]; exact c3
            go_wp2_with fail
            go_quiet (fail)
            obtain ⟨wo, hwo⟩ : ∃ wo, wp.drewN nq = wo := ⟨_, rfl⟩
            have hOo : wo.ownsRow w.heap.size 3 1 (.slice oo X.length oc) X.length (icells X) := by rw [← hwo]; exact hOp
            have hBo : Below w.heap.size w wo := by rw [← hwo]; exact Below.dN hBp _
            have hso := hBo.size
            rw [hwo]
            have o0 : wo.cell? ⟨bk, off + (k + 1) * 4, none⟩ = some (.int .i64 A') := by rw [← hwo, ← hwp]; exact d0
            have o1 : wo.cell? ⟨bk, off + (k + 1) * 4 + 1, none⟩ = some (.int .i64 AN') := by rw [← hwo, ← hwp]; exact d1
            clear hwo hwp
            go_wp2_with fail
            rw [rounds_succ]
            go_wp2_with fail
            go_quiet (fail)
            obtain ⟨wq, hwq⟩ : ∃ wq, wo.drewN nq = wq := ⟨_, rfl⟩
            have hOq : wq.ownsRow w.heap.size 3 1 (.slice oo X.length oc) X.length (icells X) := by rw [← hwq]; exact hOo
            have hBq : Below w.heap.size w wq := by rw [← hwq]; exact Below.dN hBo _
            have hsq := hBq.size
            rw [hwq]
            have e0 : wq.cell? ⟨bk, off + (k + 1) * 4, none⟩ = some (.int .i64 A') := by rw [← hwq]; exact o0
            clear hwq
            go_wp2_with (at_builtin; refine wpList_append_h _ (by kernel_rfl) (.tmp 70) (.tmp 72) 26 3 (.int .i64 0) 1 8 rfl Try.underlying26 infoInt rfl (by decide) (by decide) w.heap.size _ _ _ rfl (hOq.alloc _) _ 1 (icells [B + BN]) rfl (new_holds _ _ _ _ _ (by decide)) rfl (icells_one _) (by omega) (by simp; omega) ?_)
            intro v2 w2 hown2 hgrow2
            have hB2 : Below w.heap.size w w2 := (hBq.alloc (by omega) _).grown hgrow2 (by simp; omega) (fun _ hj => owns_ge hOq hj)
            rw [← icells_append] at hown2
            obtain ⟨oo2, oc2, rfl⟩ := (holds_of hown2).form
            clear hgrow2
            go_wp2
            go_roundw
            case rel => exact ⟨i + 1, k + 1, A + AN, B + BN, B + BN + 1, X ++ [B + BN], by omega, by omega, ⟨_, _, by rw [List.length_append]; rfl⟩, by go_num, by go_num, by go_num, by omega, by omega, by omega, by omega, by omega, hB2, by rw [List.length_append]; exact hown2, by simp; omega, HN⟩
            case measure => simp [intOf]; omega
          · rw [List.drop_of_length_le (show l.length ≤ k + 1 by omega)] at h7 hZ1
            have hbm : B + BN + 1 ≤ 4611686018427387904 := by have := h7.2.2; omega
            have HN : Hid (Right (decide (k + 1 = 0)) (A + AN) (B + BN) N m (l.drop (k + 1)) ∧ X ++ [B + BN] ++ (kr (A + AN) (B + BN) N m (l.drop (k + 1))).drop ((i + 1 : Nat) - (A + AN)).toNat = Z ∧ (∀ c r, l.drop (k + 1) = c :: r → ((i + 1 : Nat) : Int) ≤ c.A + c.AN ∧ (((i + 1 : Nat) : Int) ≤ c.A → B + BN + 1 = B + BN + (((i + 1 : Nat) : Int) - (A + AN)))) ∧ (l.drop (k + 1) = [] → B + BN + 1 = B + BN + (((i + 1 : Nat) : Int) - (A + AN)))) := (by
              rw [List.drop_of_length_le (show l.length ≤ k + 1 by omega)]
              refine ⟨h7, ?_, fun c r h => (by cases h), fun _ => by omega⟩
              have h0 := drop_of_at (kr_at_nil (a := A + AN) (b := B + BN) (n := N) (m := m) (j := 0) (by omega))
              rw [List.drop_zero] at h0
              rw [← hZ1, show ((i + 1 : Nat) - (A + AN)).toNat = 1 by omega, List.append_assoc, h0]
              simp)
            clear q1 q2 q3 q5 q6 hc h7 hZ1
            have j4 : ¬ ((k : Int) + 1 < (l.length : Int)) := by omega
            have j6 : decide ((k : Int) + 1 < (l.length : Int)) = false := decide_eq_false j4
            have j5 : A + AN ≤ (i : Int) := by omega
            have HI : Hid ((i : Int) = A + AN) := hie
            clear hie
            go_wp2_with fail
            refine wp_loop_rounds 2 ?_
            rw [rounds_succ]
            go_wp2_with fail
            go_quiet (fail)
            obtain ⟨wp, hwp⟩ : ∃ wp, wr.drewN nq = wp := ⟨_, rfl⟩
            have hOp : wp.ownsRow w.heap.size 3 1 (.slice oo X.length oc) X.length (icells X) := by rw [← hwp]; exact hO
            have hBp : Below w.heap.size w wp := by rw [← hwp]; exact Below.dN hB _
            have hsp := hBp.size
            rw [hwp]
            have p2 : wp.cell? ⟨bk, off + k * 4 + 2, none⟩ = some (.int .i64 B) := by rw [← hwp]; exact c2
            have p3 : wp.cell? ⟨bk, off + k * 4 + 3, none⟩ = some (.int .i64 BN) := by rw [← hwp]; exact c3
            go_wp2_with fail
            go_quiet (fail)
            obtain ⟨wo, hwo⟩ : ∃ wo, wp.drewN nq = wo := ⟨_, rfl⟩
            have hOo : wo.ownsRow w.heap.size 3 1 (.slice oo X.length oc) X.length (icells X) := by rw [← hwo]; exact hOp
            have hBo : Below w.heap.size w wo := by rw [← hwo]; exact Below.dN hBp _
            have hso := hBo.size
            rw [hwo]
            clear hwo hwp
            go_wp2_with fail
            rw [rounds_succ]
            go_wp2_with fail
            go_quiet (fail)
            obtain ⟨wq, hwq⟩ : ∃ wq, wo.drewN nq = wq := ⟨_, rfl⟩
            have hOq : wq.ownsRow w.heap.size 3 1 (.slice oo X.length oc) X.length (icells X) := by rw [← hwq]; exact hOo
            have hBq : Below w.heap.size w wq := by rw [← hwq]; exact Below.dN hBo _
            have hsq := hBq.size
            rw [hwq]
            clear hwq
            go_wp2_with (at_builtin; refine wpList_append_h _ (by kernel_rfl) (.tmp 70) (.tmp 72) 26 3 (.int .i64 0) 1 8 rfl Try.underlying26 infoInt rfl (by decide) (by decide) w.heap.size _ _ _ rfl (hOq.alloc _) _ 1 (icells [B + BN]) rfl (new_holds _ _ _ _ _ (by decide)) rfl (icells_one _) (by omega) (by simp; omega) ?_)
            intro v2 w2 hown2 hgrow2
            have hB2 : Below w.heap.size w w2 := (hBq.alloc (by omega) _).grown hgrow2 (by simp; omega) (fun _ hj => owns_ge hOq hj)
            rw [← icells_append] at hown2
            obtain ⟨oo2, oc2, rfl⟩ := (holds_of hown2).form
            clear hgrow2
            go_wp2
            go_roundw
            case rel => exact ⟨i + 1, k + 1, A + AN, B + BN, B + BN + 1, X ++ [B + BN], by omega, by omega, ⟨_, _, by rw [List.length_append]; rfl⟩, by go_num, by go_num, by go_num, by omega, by omega, by omega, by omega, by omega, hB2, by rw [List.length_append]; exact hown2, by simp; omega, HN⟩
            case measure => simp [intOf]; omega
      · have hR' := hR.out
        rw [List.drop_of_length_le (by omega)] at hR'
        obtain ⟨q1, q2, _, q4⟩ := hR'
        have hbe := q4 rfl
        have hbm : b + 1 ≤ 4611686018427387904 := by have := q1.2.2; omega
        have HN : Hid (Right (decide (k = 0)) a0 b0 N m (l.drop k) ∧ X ++ [b] ++ (kr a0 b0 N m (l.drop k)).drop ((i + 1 : Nat) - a0).toNat = Z ∧ (∀ c r, l.drop k = c :: r → ((i + 1 : Nat) : Int) ≤ c.A + c.AN ∧ (((i + 1 : Nat) : Int) ≤ c.A → b + 1 = b0 + (((i + 1 : Nat) : Int) - a0))) ∧ (l.drop k = [] → b + 1 = b0 + (((i + 1 : Nat) : Int) - a0))) := (by
          rw [List.drop_of_length_le (by omega)]
          refine ⟨q1, ?_, fun c r h => (by cases h), fun _ => by omega⟩
          rw [← q2, drop_of_at (kr_at_nil (b := b0) (m := m) (j := ((i : Int) - a0).toNat) (by have := q1.1; omega)), List.append_assoc]
          rw [show ((i + 1 : Nat) - a0).toNat = ((i : Int) - a0).toNat + 1 by omega, show b = b0 + ((((i : Int) - a0).toNat : Nat) : Int) by omega]
          rfl)
        clear hR q1 q2 q4 hbe
        have j2 : (l.length : Int) ≤ (k : Int) := by omega
        go_wp2_with fail
        refine wp_loop_rounds 1 ?_
        rw [rounds_succ]
        go_wp2_with fail
        go_quiet (fail)
        obtain ⟨wq, hwq⟩ : ∃ wq, wr.drewN nq = wq := ⟨_, rfl⟩
        have hOq : wq.ownsRow w.heap.size 3 1 (.slice oo X.length oc) X.length (icells X) := by rw [← hwq]; exact hO
        have hBq : Below w.heap.size w wq := by rw [← hwq]; exact Below.dN hB _
        have hsq := hBq.size
        rw [hwq]
        clear hwq
        go_wp2_with (at_builtin; refine wpList_append_h _ (by kernel_rfl) (.tmp 70) (.tmp 72) 26 3 (.int .i64 0) 1 8 rfl Try.underlying26 infoInt rfl (by decide) (by decide) w.heap.size _ _ _ rfl (hOq.alloc _) _ 1 (icells [b]) rfl (new_holds _ _ _ _ _ (by decide)) rfl (icells_one _) (by omega) (by simp; omega) ?_)
        intro v2 w2 hown2 hgrow2
        have hB2 : Below w.heap.size w w2 := (hBq.alloc (by omega) _).grown hgrow2 (by simp; omega) (fun _ hj => owns_ge hO hj)
        rw [← icells_append] at hown2
        obtain ⟨oo2, oc2, rfl⟩ := (holds_of hown2).form
        clear hgrow2
        go_wp2
        go_roundw
        case rel => exact ⟨i + 1, k, a0, b0, b + 1, X ++ [b], by omega, by omega, ⟨_, _, by rw [List.length_append]; rfl⟩, by go_num, by go_num, by go_num, by omega, by omega, by omega, by omega, by omega, hB2, by rw [List.length_append]; exact hown2, by simp; omega, HN⟩
        case measure => simp [intOf]; omega
    · have hR' := hR.out
      have hXZ : X = Z := by
        have hlz := kr_length hR'.1
        have := hR'.2.1
        rw [List.drop_of_length_le (by omega), List.append_nil] at this
        exact this
      subst hXZ
      clear hR hR'
      have j1 : (N : Int) ≤ (i : Int) := by omega
      go_wp2
      go_ret2
      exact ⟨_, rfl, holds_of hO, hB⟩
end Go.Proofs.Ytoacmaloiaeniaa
