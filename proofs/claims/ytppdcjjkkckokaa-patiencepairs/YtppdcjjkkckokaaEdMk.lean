/-
  Scripts are made: between, Make, walked.
-/
import Derived.Test.YtppdcjjkkckokaaEdWalk
import Derived.Test.YtppdcjjkkckokaaEdM4
namespace Go.Proofs.Ytppdcjjkkckokaa
open Go.RowKit

theorem ret_tuple {a b : Value} (h : a = b) : Ending.returned a = .returned b := by rw [h]
/-- numbers of a run that are small enough for sums -/
def sm (r : Rn) : Prop := 0 ≤ r.a ∧ r.a ≤ 4294967296 ∧ 0 ≤ r.b ∧ r.b ≤ 4294967296 ∧ 0 ≤ r.n ∧ r.n ≤ 4294967296
theorem owns_apart {w w' : World} {base base' : Nat} {e e' : TypeId} {s s' : Nat} {v v' : Value} {n n' : Nat} {xs xs' : List Value} (h : w.ownsRow base e s v n xs) (h' : w.ownsRow base' e' s' v' n' xs') (hne : e ≠ e') (h0 : 0 < n) (hg : w.grownBy w' v'.ownBlock) : w'.ownsRow base e s v n xs := by
  refine h.kept hg (.inr ?_)
  rcases h.2 with ⟨_, h1⟩ | ⟨g, cap, cur, rfl, _, hc, _⟩
  · omega
  · rcases h'.2 with ⟨rfl, _⟩ | ⟨g', cap', cur', rfl, _, hc', _⟩
    · simp [Value.ownBlock]
    · intro e1
      simp only [Value.ownBlock, Option.some.injEq] at e1
      subst e1
      rw [hc] at hc'
      cases hc'
      exact hne rfl

theorem new_holds_at (W : World) (g : Nat) (hg : W.heap.size = g) (cs : Array Value) (e : TypeId) (k c : Nat) (hkc : k ≤ c) : Holds (W.alloc (.cells cs e)) (.slice (some ⟨g, 0, none⟩) k c) k cs.toList := by
  subst hg
  exact new_holds W cs e k c hkc

set_option maxRecDepth 10000 in
set_option maxHeartbeats 4000000 in
theorem between_f (rs RS : List Rn) (L : List Ch) (n m : Int) (v : Value) (base : Nat) (w : World) (hbase : base ≤ w.heap.size) (hv : w.ownsRow base 62 3 v rs.length (rncells rs)) (hlen : rs.length ≤ 1099511627776) (hRS : Hid (rs ++ [⟨n, m, 0⟩] = RS)) (hL : Hid (betw 0 0 RS = L)) (hs : Hid (∀ r ∈ RS, sm r)) (hN : Hid (∀ c ∈ L, numB c = true)) :
    Calls Try.prog 31 #[v, .int .i64 n, .int .i64 m] w fun e w' => ∃ v', e = .returned (.tuple #[v', .int .i64 0]) ∧ HCh w' v' L ∧ Below base w w' := by
  obtain ⟨ao, ca, rfl⟩ := (holds_of hv).form
  go_enter Try.func31, Try.ntmps31
  go_wp2_with (at_builtin; refine wpList_append_h _ (by kernel_rfl) (.tmp 15) (.tmp 19) 53 62 (.agg #[.int .i64 0, .int .i64 0, .int .i64 0]) 3 24 rfl Try.underlying53 infoRn rfl (by decide) (by decide) base _ _ _ rfl (hv.alloc _) _ 1 (rncells [⟨n, m, 0⟩]) rfl (new_holds _ _ _ _ _ (by decide)) rfl (rncells_one _) (by omega) (by simp; omega) ?_)
  intro v1 w1 hown1 hgrow1
  have hB1 : Below base w w1 := ((Below.refl base w).alloc hbase _).grown hgrow1 (by simp; omega) (fun _ hj => owns_ge hv hj)
  have hsz1 := hB1.size
  rw [← rncells_append, hRS.out] at hown1
  have hRl : RS.length = rs.length + 1 := by rw [← hRS.out]; simp
  obtain ⟨N, hNe⟩ : ∃ N, rs.length + 1 = N := ⟨_, rfl⟩
  rw [hNe] at hown1 hRl
  have hN0 : 0 < N := by omega
  have hNl : N ≤ 1099511627777 := by omega
  obtain ⟨g1, cap1, rfl⟩ : ∃ g cap, v1 = .slice (some ⟨g, 0, none⟩) N cap := by rw [← hNe] at hown1 ⊢; exact ownsRow_succ hown1
  clear hgrow1 hNe hv
  go_wp2
  go_loopw [8, 9, 10, 22] (fun lv av bv iv wr => ∃ (k : Nat) (a b : Int) (X : List Ch), k ≤ N ∧ (∃ oo oc, lv = .slice oo X.length oc) ∧ av = .int .i64 a ∧ bv = .int .i64 b ∧ iv = .int .i64 k ∧ 0 ≤ a ∧ a ≤ 8589934592 ∧ 0 ≤ b ∧ b ≤ 8589934592 ∧ Below base w wr ∧ wr.ownsRow base 59 4 lv X.length (chcells X) ∧ X.length ≤ k ∧ wr.ownsRow base 62 3 (.slice (some ⟨g1, 0, none⟩) N cap1) N (rncells RS) ∧ Hid (X ++ betw a b (RS.drop k) = L)) (fun _ _ _ iv _ => N - (intOf iv).toNat)
  case atStart => exact ⟨0, 0, 0, [], Nat.zero_le _, ⟨_, _, rfl⟩, rfl, rfl, rfl, by omega, by omega, by omega, by omega, hB1, World.ownsRow_nil _ _ _ _, Nat.zero_le _, hown1, hL⟩
  case round =>
    obtain ⟨k, a, b, X, hk, ⟨oo, oc, rfl⟩, rfl, rfl, rfl, ha0, ha1, hb0, hb1, hB, hO, hX, hV, hR⟩ := hrel
    have hsz := hB.size
    by_cases hlt : k < N
    · have hV' : HRn wr (.slice (some ⟨g1, 0, none⟩) N cap1) RS := by have := holds_of hV; rw [← hRl] at this ⊢; exact this
      obtain ⟨bk, off, hbe, hbk, hc⟩ := HRn.at hV' (by omega)
      cases hbe
      obtain ⟨c0, c1, c2⟩ := hc k (by omega)
      have hR' := hR.out
      rw [List.drop_eq_getElem_cons (by omega)] at hR'
      obtain ⟨r, hrd⟩ : ∃ r, RS[k] = r := ⟨_, rfl⟩
      have hsm := hs.out r (by rw [← hrd]; exact List.getElem_mem _)
      rw [hrd] at hR' c0 c1 c2
      clear hc hrd hR hV'
      have HR : Hid (X ++ betw a b (r :: RS.drop (k + 1)) = L) := hR'
      clear hR'
      obtain ⟨ra, rb, rn⟩ := r
      obtain ⟨s1, s2, s3, s4, s5, s6⟩ := hsm
      dsimp only at c0 c1 c2 s1 s2 s3 s4 s5 s6
      rw [Nat.zero_add] at c0 c1 c2
      have i1 : 0 ≤ (k : Int) := by omega
      have i2 : (k : Int) < (N : Int) := by omega
      by_cases hea : a < ra
      · go_wp2_with (at_builtin; refine wpList_append_h _ (by kernel_rfl) (.tmp 36) (.tmp 48) 22 59 (.agg #[.int .i64 0, .int .i64 0, .int .i64 0, .int .i64 0]) 4 32 rfl Try.underlying22 infoCh rfl (by decide) (by decide) base _ _ _ rfl ((hO.alloc _).alloc _) _ 1 (chcells [⟨a, ra - a, b, rb - b⟩]) rfl (new_holds_at _ _ (by simp) _ _ _ _ (by decide)) rfl (chcells_one _) (by omega) (by simp; omega) ?_)
        intro v2 w2 hown2 hgrow2
        have hB2 : Below base w w2 := ((hB.alloc (by omega) _).alloc (by simp; omega) _).grown hgrow2 (by simp; omega) (fun _ hj => owns_ge hO hj)
        have hsz2 := hB2.size
        have hV2 := owns_apart ((hV.alloc _).alloc _) ((hO.alloc _).alloc _) (by decide) hN0 hgrow2
        have hbx : w2.heap[wr.heap.size]? = some (Obj.cells #[Value.int IntKind.i64 ra, Value.int IntKind.i64 rb, Value.int IntKind.i64 rn] 62 (0, 0)) := by
          rw [hgrow2.block wr.heap.size (by simp; omega) (fun e => ?_)]
          · exact (Below.heap_alloc _ _ _ (by simp)).trans (_root_.Go.heap_alloc_new wr _)
          · have h1 := hO.2
            rcases h1 with ⟨h1, _⟩ | ⟨g, cap, cur, h1, _, h3, _⟩
            · rw [h1] at e; simp [Value.ownBlock] at e
            · rw [h1] at e
              simp only [Value.ownBlock, Option.some.injEq] at e
              have := (Array.getElem?_eq_some_iff.1 h3).1
              omega
        have d0 : w2.cell? ⟨wr.heap.size, 0, none⟩ = some (.int .i64 ra) := by rw [Lib.cell_of_heap hbx]; rfl
        have d1 : w2.cell? ⟨wr.heap.size, 1, none⟩ = some (.int .i64 rb) := by rw [Lib.cell_of_heap hbx]; rfl
        have d2 : w2.cell? ⟨wr.heap.size, 2, none⟩ = some (.int .i64 rn) := by rw [Lib.cell_of_heap hbx]; rfl
        rw [← chcells_append] at hown2
        obtain ⟨oo2, oc2, rfl⟩ := (holds_of hown2).form
        clear hbx hgrow2 c0 c1 c2
        go_wp2_with fail
        go_quiet (fail)
        go_wp2
        go_roundw
        case rel => exact ⟨k + 1, ra + rn, rb + rn, X ++ [⟨a, ra - a, b, rb - b⟩], by omega, ⟨_, _, by rw [List.length_append]; rfl⟩, by go_num, by go_num, by go_num, by omega, by omega, by omega, by omega, Below.dN hB2 _, by rw [List.length_append]; exact hown2, by simp; omega, hV2, (by
            have h := HR.out
            rw [betw] at h
            rw [if_pos (by dsimp only; omega)] at h
            show _ = _
            rw [← h]
            simp)⟩
        case measure => simp [intOf]; omega
      by_cases heb : b < rb
      · go_wp2_with (at_builtin; refine wpList_append_h _ (by kernel_rfl) (.tmp 36) (.tmp 48) 22 59 (.agg #[.int .i64 0, .int .i64 0, .int .i64 0, .int .i64 0]) 4 32 rfl Try.underlying22 infoCh rfl (by decide) (by decide) base _ _ _ rfl ((hO.alloc _).alloc _) _ 1 (chcells [⟨a, ra - a, b, rb - b⟩]) rfl (new_holds_at _ _ (by simp) _ _ _ _ (by decide)) rfl (chcells_one _) (by omega) (by simp; omega) ?_)
        intro v2 w2 hown2 hgrow2
        have hB2 : Below base w w2 := ((hB.alloc (by omega) _).alloc (by simp; omega) _).grown hgrow2 (by simp; omega) (fun _ hj => owns_ge hO hj)
        have hsz2 := hB2.size
        have hV2 := owns_apart ((hV.alloc _).alloc _) ((hO.alloc _).alloc _) (by decide) hN0 hgrow2
        have hbx : w2.heap[wr.heap.size]? = some (Obj.cells #[Value.int IntKind.i64 ra, Value.int IntKind.i64 rb, Value.int IntKind.i64 rn] 62 (0, 0)) := by
          rw [hgrow2.block wr.heap.size (by simp; omega) (fun e => ?_)]
          · exact (Below.heap_alloc _ _ _ (by simp)).trans (_root_.Go.heap_alloc_new wr _)
          · have h1 := hO.2
            rcases h1 with ⟨h1, _⟩ | ⟨g, cap, cur, h1, _, h3, _⟩
            · rw [h1] at e; simp [Value.ownBlock] at e
            · rw [h1] at e
              simp only [Value.ownBlock, Option.some.injEq] at e
              have := (Array.getElem?_eq_some_iff.1 h3).1
              omega
        have d0 : w2.cell? ⟨wr.heap.size, 0, none⟩ = some (.int .i64 ra) := by rw [Lib.cell_of_heap hbx]; rfl
        have d1 : w2.cell? ⟨wr.heap.size, 1, none⟩ = some (.int .i64 rb) := by rw [Lib.cell_of_heap hbx]; rfl
        have d2 : w2.cell? ⟨wr.heap.size, 2, none⟩ = some (.int .i64 rn) := by rw [Lib.cell_of_heap hbx]; rfl
        rw [← chcells_append] at hown2
        obtain ⟨oo2, oc2, rfl⟩ := (holds_of hown2).form
        clear hbx hgrow2 c0 c1 c2
        go_wp2_with fail
        go_quiet (fail)
        go_wp2
        go_roundw
        case rel => exact ⟨k + 1, ra + rn, rb + rn, X ++ [⟨a, ra - a, b, rb - b⟩], by omega, ⟨_, _, by rw [List.length_append]; rfl⟩, by go_num, by go_num, by go_num, by omega, by omega, by omega, by omega, Below.dN hB2 _, by rw [List.length_append]; exact hown2, by simp; omega, hV2, (by
            have h := HR.out
            rw [betw] at h
            rw [if_pos (by dsimp only; omega)] at h
            show _ = _
            rw [← h]
            simp)⟩
        case measure => simp [intOf]; omega
      · go_wp2_with fail
        go_quiet (fail)
        go_wp2
        go_roundw
        case rel => exact ⟨k + 1, ra + rn, rb + rn, X, by omega, ⟨_, _, rfl⟩, by go_num, by go_num, by go_num, by omega, by omega, by omega, by omega, Below.dN (hB.alloc (by omega) _) _, hO.alloc _, by omega, hV.alloc _, (by
            have h := HR.out
            rw [betw] at h
            rw [if_neg (by dsimp only; omega)] at h
            exact h)⟩
        case measure => simp [intOf]; omega
    · have hR' := hR.out
      rw [List.drop_of_length_le (by omega), betw, List.append_nil] at hR'
      subst hR'
      clear hR
      go_wp2
      go_loopw [63] (fun iv wr2 => ∃ k : Nat, k ≤ X.length ∧ iv = .int .i64 k ∧ Below base w wr2 ∧ HCh wr2 (.slice oo X.length oc) X) (fun iv _ => X.length - (intOf iv).toNat)
      case atStart => exact ⟨0, Nat.zero_le _, rfl, hB, holds_of hO⟩
      case round =>
        obtain ⟨j, hj, rfl, hBj, hXj⟩ := hrel
        have hszj := hBj.size
        by_cases hjl : j < X.length
        · obtain ⟨bk, off, rfl, hbk, hc⟩ := HCh.at hXj (by omega)
          obtain ⟨c0, c1, c2, c3⟩ := hc j hjl
          obtain ⟨c, hcd⟩ : ∃ c, X[j] = c := ⟨_, rfl⟩
          have hnc := hN.out c (by rw [← hcd]; exact List.getElem_mem _)
          rw [hcd] at c0 c1 c2 c3
          clear hc hcd
          obtain ⟨A, AN, B, BN⟩ := c
          dsimp only at c0 c1 c2 c3
          have HQ : Hid (numB ⟨A, AN, B, BN⟩ = true) := hnc
          clear hnc
          have i1 : 0 ≤ (j : Int) := by omega
          have i2 : (j : Int) < (X.length : Int) := by omega
          go_wp2_with fail
          refine (numbered_any ⟨A, AN, B, BN⟩ _).mono ?_
          rintro e w3 ⟨rfl, hB3⟩
          rw [HQ.out]
          have hB4 := ((Below.refl wr.heap.size wr).alloc (Nat.le_refl _) (Obj.cells #[Value.int IntKind.i64 A, Value.int IntKind.i64 AN, Value.int IntKind.i64 B, Value.int IntKind.i64 BN] 59)).trans (hB3.mono (by simp))
          clear c0 c1 c2 c3
          go_wp2
          go_roundw
          case rel => exact ⟨j + 1, by omega, by go_num, hBj.trans (hB4.mono (by omega)), HCh.keep hXj hB4 (Nat.le_refl _)⟩
          case measure => simp [intOf]; omega
        · go_wp2
          go_ret2
          exact ⟨_, rfl, hXj, hBj⟩

theorem Right.num {f : Bool} {a b n m : Int} {l : List Ch} (h : Right f a b n m l) : ∀ c ∈ l, numB c = true := by
  induction l generalizing f a b with
  | nil => simp
  | cons c l ih =>
    intro d hd
    rw [List.mem_cons] at hd
    rcases hd with rfl | hd
    · exact h.1.1
    · exact ih h.2 d hd
theorem Vk.lt {nx m : Int} {K : List Int} (h : Vk nx m K) : ∀ z ∈ K, z = -1 ∨ z < m := by
  induction K generalizing nx with
  | nil => simp
  | cons y t ih =>
    intro z hz
    rw [List.mem_cons] at hz
    rcases h with ⟨rfl, h⟩ | ⟨hy, h1, h2, h3⟩
    · rcases hz with rfl | hz
      · exact .inl rfl
      · exact ih h z hz
    · rcases hz with rfl | hz
      · exact .inr h2
      · exact ih h3 z hz
/-- the script that a list of what is kept makes -/
def mkL (K : List Int) (m : Int) : List Ch := betw 0 0 (keptR 0 K ++ [⟨K.length, m, 0⟩])
theorem mk_script {K : List Int} {m : Int} (h : Vk 0 m K) (h0 : 0 ≤ m) (hm : m ≤ 2147483647) (hl : K.length ≤ 1048576) : Script (mkL K m) K.length m ∧ U 0 0 K.length m (mkL K m) = keptR 0 K := by
  have hf := h.fit h0 (i := 0)
  rw [Int.zero_add] at hf
  have := fit_right hf (Int.le_refl _) (Int.le_refl _) (by omega) hm
  exact ⟨⟨by omega, h0, this.1⟩, this.2⟩
theorem kept_sm {K : List Int} {m : Int} (h : Vk 0 m K) (h0 : 0 ≤ m) (hm : m ≤ 2147483647) (hl : K.length ≤ 1048576) : ∀ r ∈ keptR 0 K ++ [⟨K.length, m, 0⟩], sm r := by
  intro r hr
  rw [List.mem_append, List.mem_singleton] at hr
  rcases hr with hr | rfl
  · rw [mem_keptR] at hr
    obtain ⟨h1, h2, h3, h4⟩ := hr
    have hlt := (List.getElem?_eq_some_iff.1 h3).1
    have hz := List.mem_of_getElem? h3
    have := h.each (Int.le_refl _) _ hz
    have := h.lt _ hz
    unfold sm
    omega
  · unfold sm
    dsimp only
    omega
theorem kept_len (i : Int) (K : List Int) : (keptR i K).length ≤ K.length := by
  induction K generalizing i with
  | nil => simp [keptR]
  | cons z t ih =>
    have := ih (i + 1)
    rw [keptR]
    split <;> simp <;> omega

set_option maxRecDepth 10000 in
set_option maxHeartbeats 4000000 in
theorem Make_f (K : List Int) (m : Int) (L : List Ch) (v : Value) (w : World) (hK : HI w v K) (hlen : K.length ≤ 1048576) (hV : Hid (Vk 0 m K)) (hm0 : 0 ≤ m) (hm : m ≤ 2147483647) (hL : Hid (mkL K m = L)) :
    Calls Try.prog 15 #[v, .int .i64 m] w fun e w' => ∃ v', e = .returned (.tuple #[v', .int .i64 0]) ∧ HCh w' v' L ∧ Below w.heap.size w w' := by
  obtain ⟨ao, ca, rfl⟩ := Holds.form hK
  go_enter Try.func15, Try.ntmps15
  go_wp2
  go_loopw [6, 7, 14] (fun kv nv iv wr => ∃ (k : Nat) (nx : Int) (X : List Rn), k ≤ K.length ∧ (∃ oo oc, kv = .slice oo X.length oc) ∧ nv = .int .i64 nx ∧ iv = .int .i64 k ∧ 0 ≤ nx ∧ nx ≤ m ∧ Below w.heap.size w wr ∧ wr.ownsRow w.heap.size 62 3 kv X.length (rncells X) ∧ X.length ≤ k ∧ Hid (Vk nx m (K.drop k) ∧ X ++ keptR k (K.drop k) = keptR 0 K)) (fun _ _ iv _ => K.length - (intOf iv).toNat)
  case atStart => exact ⟨0, 0, [], Nat.zero_le _, ⟨_, _, rfl⟩, rfl, rfl, by omega, by omega, Below.refl _ w, World.ownsRow_nil _ _ _ _, Nat.zero_le _, (⟨hV.out, rfl⟩ : _ ∧ _)⟩
  case round =>
    obtain ⟨k, nx, X, hk, ⟨oo, oc, rfl⟩, rfl, rfl, hn0, hnm, hB, hO, hX, hR⟩ := hrel
    have hsz := hB.size
    by_cases hlt : k < K.length
    · obtain ⟨bk, off, rfl, hbk, hc⟩ := HI.at (HI.keep hK hB (Nat.le_refl _)) (by omega)
      have c0 := hc k hlt
      have hR' := hR.out
      rw [List.drop_eq_getElem_cons hlt] at hR'
      obtain ⟨z, hzd⟩ : ∃ z, K[k] = z := ⟨_, rfl⟩
      rw [hzd] at hR' c0
      clear hc hzd hR
      have i1 : 0 ≤ (k : Int) := by omega
      have i2 : (k : Int) < (K.length : Int) := by omega
      by_cases hz : z = -1
      · subst hz
        have HR : Hid (Vk nx m (K.drop (k + 1)) ∧ X ++ keptR (k + 1 : Nat) (K.drop (k + 1)) = keptR 0 K) := (by
          obtain ⟨h1, h2⟩ := hR'
          rw [keptR, if_pos rfl] at h2
          rcases h1 with ⟨_, h1⟩ | ⟨h1, _⟩
          · exact ⟨h1, h2⟩
          · exact absurd rfl h1)
        clear hR'
        go_wp2
        go_roundw
        case rel => exact ⟨k + 1, nx, X, by omega, ⟨_, _, rfl⟩, rfl, by go_num, hn0, hnm, hB, hO, by omega, HR⟩
        case measure => simp [intOf]; omega
      · have hq : nx ≤ z ∧ z < m ∧ Vk (z + 1) m (K.drop (k + 1)) := by
          rcases hR'.1 with ⟨h1, _⟩ | ⟨_, h1⟩
          · exact absurd h1 hz
          · exact h1
        obtain ⟨q1, q2, q3⟩ := hq
        have HR : Hid (Vk (z + 1) m (K.drop (k + 1)) ∧ X ++ [⟨k, z, 1⟩] ++ keptR (k + 1 : Nat) (K.drop (k + 1)) = keptR 0 K) := (by
          obtain ⟨_, h2⟩ := hR'
          rw [keptR, if_neg hz] at h2
          refine ⟨q3, ?_⟩
          rw [← h2, List.append_assoc]
          rfl)
        clear hR' q3
        have hz2 : decide (z = -1) = false := decide_eq_false hz
        go_wp2_with (at_builtin; refine wpList_append_h _ (by kernel_rfl) (.tmp 29) (.tmp 33) 53 62 (.agg #[.int .i64 0, .int .i64 0, .int .i64 0]) 3 24 rfl Try.underlying53 infoRn rfl (by decide) (by decide) w.heap.size _ _ _ rfl (hO.alloc _) _ 1 (rncells [⟨k, z, 1⟩]) rfl (new_holds _ _ _ _ _ (by decide)) rfl (rncells_one _) (by omega) (by simp; omega) ?_)
        intro v2 w2 hown2 hgrow2
        have hB2 : Below w.heap.size w w2 := (hB.alloc (by omega) _).grown hgrow2 (by simp; omega) (fun _ hj => owns_ge hO hj)
        rw [← rncells_append] at hown2
        obtain ⟨oo2, oc2, rfl⟩ := (holds_of hown2).form
        clear hgrow2 c0
        go_wp2
        go_roundw
        case rel => exact ⟨k + 1, z + 1, X ++ [⟨k, z, 1⟩], by omega, ⟨_, _, by rw [List.length_append]; rfl⟩, by go_num, by go_num, by omega, by omega, hB2, by rw [List.length_append]; exact hown2, by simp; omega, HR⟩
        case measure => simp [intOf]; omega
    · have hR' := hR.out
      rw [List.drop_of_length_le (by omega), keptR, List.append_nil] at hR'
      have hXe := hR'.2
      subst hXe
      clear hR hR'
      go_wp2_with fail
      refine (between_f _ _ L K.length m _ w.heap.size wr (by omega) hO (by have := kept_len 0 K; omega) rfl hL (kept_sm hV.out hm0 hm hlen) (by
        have h := (mk_script hV.out hm0 hm hlen).1.2.2.num
        rw [hL.out] at h
        exact h)).mono ?_
      rintro e w2 ⟨v', rfl, hv', hB2⟩
      go_wp2
      go_ret2
      exact ⟨_, rfl, hv', hB.trans hB2⟩
end Go.Proofs.Ytppdcjjkkckokaa
