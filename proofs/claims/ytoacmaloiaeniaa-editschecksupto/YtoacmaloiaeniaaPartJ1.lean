/-
  Texts that belong together, joined: EdRK, EdRI, EdCk.
-/
import Derived.Test.YtoacmaloiaeniaaPartD1
import Derived.Test.YtoacmaloiaeniaaPartF1
import Derived.Test.YtoacmaloiaeniaaPartA1
import Derived.Test.YtoacmaloiaeniaaPartE1

/- The reference's Cost and Invert, walked. -/
namespace Go.Proofs.Ytoacmaloiaeniaa
open Go.RowKit
attribute [local simp] low_drew low_alloc

set_option maxRecDepth 10000 in
set_option maxHeartbeats 2000000 in
theorem rCost_f (l : List Ch) (r : Int) (v : Value) (w : World) (hl : HCh w v l) (hlen : l.length ≤ 1099511627776) (hr : Hid (costF 0 l = r)) :
    Calls Try.prog 19 #[v] w fun e w' => e = .returned (.int .i64 r) ∧ Below w.heap.size w w' := by
  obtain ⟨ao, ca, rfl⟩ := Holds.form hl
  go_enter Try.func19, Try.ntmps19
  go_wp2
  go_loopw [3, 4] (fun sv iv wr => ∃ (k : Nat) (s : Int), k ≤ l.length ∧ sv = .int .i64 s ∧ iv = .int .i64 k ∧ 0 ≤ s ∧ s ≤ 2147483647 ∧ wr = w ∧ Hid (costF s (l.drop k) = r)) (fun _ iv _ => l.length - (intOf iv).toNat)
  case atStart => exact ⟨0, 0, Nat.zero_le _, rfl, rfl, by omega, by omega, rfl, hr⟩
  case round =>
    obtain ⟨k, s, hk, rfl, rfl, h0, h1, rfl, hR⟩ := hrel
    by_cases hlt : k < l.length
    · obtain ⟨bk, off, rfl, hbk, hc⟩ := HCh.at hl (by omega)
      obtain ⟨c0, c1, c2, c3⟩ := hc k hlt
      have hR' := hR.out
      rw [List.drop_eq_getElem_cons hlt] at hR'
      obtain ⟨c, hcd⟩ : ∃ c, l[k] = c := ⟨_, rfl⟩
      rw [hcd] at hR' c0 c1 c2 c3
      clear hc hcd hR
      have HR : Hid (costF (mo (mo s c.AN) c.BN) (l.drop (k + 1)) = r) := hR'
      clear hR'
      obtain ⟨A, AN, B, BN⟩ := c
      dsimp only at c0 c1 c2 c3 HR
      have i1 : 0 ≤ (k : Int) := by omega
      have i2 : (k : Int) < (l.length : Int) := by omega
      obtain ⟨m0, m1⟩ := mo_range (z := AN) h0 h1
      obtain ⟨n0, n1⟩ := mo_range (z := BN) m0 m1
      go_wp2
      refine ⟨⟨k + 1, mo (mo s AN) BN, by omega, congrArg (Value.int .i64) ?_, by go_num, n0, n1, trivial, HR⟩, by simp [intOf]; omega⟩
      unfold mo
      repeat' split
      all_goals omega
    · go_wp2
      go_ret
      refine ⟨ret_int ?_, Below.refl _ _⟩
      have := hR.out
      rw [List.drop_of_length_le (by omega)] at this
      exact this
end Go.Proofs.Ytoacmaloiaeniaa

/- The reference's Invert, walked. -/
namespace Go.Proofs.Ytoacmaloiaeniaa
open Go.RowKit
attribute [local simp] low_drew

set_option maxRecDepth 10000 in
set_option maxHeartbeats 4000000 in
theorem rInvert_f (l L : List Ch) (v : Value) (w : World) (hl : HCh w v l) (hlen : l.length ≤ 1048576) (hL : Hid (invL l = L)) :
    Calls Try.prog 17 #[v] w fun e w' => ∃ v', e = .returned v' ∧ HCh w' v' L ∧ Below w.heap.size w w' := by
  obtain ⟨ao, ca, rfl⟩ := Holds.form hl
  go_enter Try.func17, Try.ntmps17
  go_wp2
  go_loopw [3, 4] (fun ov iv wr => ∃ (k : Nat) (X : List Ch), k ≤ l.length ∧ (∃ oo oc, ov = .slice oo X.length oc) ∧ iv = .int .i64 k ∧ St w 51 4 ov X.length (chcells X) wr ∧ X.length ≤ k ∧ Hid (X ++ invL (l.drop k) = L)) (fun _ iv _ => l.length - (intOf iv).toNat)
  case atStart => exact ⟨0, [], Nat.zero_le _, ⟨_, _, rfl⟩, rfl, ⟨World.ownsRow_nil _ _ _ _, Below.refl _ w⟩, Nat.zero_le _, hL⟩
  case round =>
    obtain ⟨k, X, hk, ⟨oo, oc, rfl⟩, rfl, hSt, hX, hR⟩ := hrel
    by_cases hlt : k < l.length
    · have hLow : Low w wr := hSt.low
      obtain ⟨bk, off, rfl, hbk, _⟩ := HCh.at (HCh.keep hl hSt.low (Nat.le_refl _)) (by omega)
      have hR' := hR.out
      rw [List.drop_eq_getElem_cons hlt] at hR'
      obtain ⟨c, hcd⟩ : ∃ c, l[k] = c := ⟨_, rfl⟩
      have HC : Hid (l[k] = c) := hcd
      rw [hcd] at hR'
      have HR : Hid (X ++ [inv c] ++ invL (l.drop (k + 1)) = L) := (by
        show _ = _
        rw [← hR', invL, invL, List.map_cons, List.append_assoc]
        rfl)
      clear hR' hcd hR
      obtain ⟨c0, c1, c2, c3⟩ := Low.ch hLow hl k hlt HC.out
      obtain ⟨A, AN, B, BN⟩ := c
      dsimp only at c0 c1 c2 c3
      have i1 : 0 ≤ (k : Int) := by omega
      have i2 : (k : Int) < (l.length : Int) := by omega
      have hxb : X.length + 1 ≤ 4398046511104 := by omega
      go_wp2_with fail
      have t0 : wr.drew.cell? ⟨bk, off + k * 4, none⟩ = some (.int .i64 A) := by simp [c0]
      have t1 : wr.drew.cell? ⟨bk, off + k * 4 + 1, none⟩ = some (.int .i64 AN) := by simp [c1]
      have t2 : wr.drew.cell? ⟨bk, off + k * 4 + 2, none⟩ = some (.int .i64 B) := by simp [c2]
      have t3 : wr.drew.cell? ⟨bk, off + k * 4 + 3, none⟩ = some (.int .i64 BN) := by simp [c3]
      obtain ⟨u0, u1, u2, u3⟩ := Low.ch ((low_drew _ _).2 (low_alloc (Obj.cells #[Value.int IntKind.i64 B, Value.int IntKind.i64 BN, Value.int IntKind.i64 A, Value.int IntKind.i64 AN] 51) hLow)) hl k hlt HC.out
      dsimp only at u0 u1 u2 u3
      go_region_held3 (fun w' => w'.cell? ⟨bk, off + k * 4, none⟩ = some (.int .i64 A) ∧ w'.cell? ⟨bk, off + k * 4 + 1, none⟩ = some (.int .i64 AN) ∧ w'.cell? ⟨bk, off + k * 4 + 2, none⟩ = some (.int .i64 B) ∧ w'.cell? ⟨bk, off + k * 4 + 3, none⟩ = some (.int .i64 BN)) (go_keep)
        (first | (refine step_append_h _ rfl (.tmp 11) (.tmp 33) 22 51 (.agg #[.int .i64 0, .int .i64 0, .int .i64 0, .int .i64 0]) 4 32 rfl Try.underlying22 infoCh rfl (by decide) (by decide) w.heap.size _ _ _ rfl (St.own (st_d _ hSt)) _ 1 (chcells [⟨B, BN, A, AN⟩]) rfl (new_holds_d _ _ _ _ _ (by decide)) rfl (chcells_one _) hxb (Below.size (St.low (st_d _ hSt))) ?_; intro v2 w2 hown2 hgrow2; have hSt2 := St.grown (st_d _ hSt) hown2 hgrow2; have hLow2 : Low w w2 := hSt2.low; obtain ⟨e0, e1, e2, e3⟩ := Low.ch hLow2 hl k hlt HC.out))
      dsimp only at e0 e1 e2 e3
      obtain ⟨oo2, oc2, rfl⟩ := (holds_of hown2).form
      rw [← chcells_append] at hSt2
      clear c0 c1 c2 c3 t0 t1 t2 t3 u0 u1 u2 u3 hSt hLow hown2 hgrow2
      go_wp2
      go_roundw
      case rel => exact ⟨k + 1, X ++ [⟨B, BN, A, AN⟩], by omega, ⟨_, _, by rw [List.length_append]; rfl⟩, by go_num, by rw [List.length_append]; exact hSt2, by simp; omega, HR⟩
      case measure => simp [intOf]; omega
    · have hR' := hR.out
      rw [List.drop_of_length_le (by omega), invL, List.map_nil, List.append_nil] at hR'
      subst hR'
      clear hR
      go_wp2
      go_ret
      exact ⟨_, rfl, holds_of hSt.own, hSt.low⟩
end Go.Proofs.Ytoacmaloiaeniaa

/- The law EditsChecks, walked. -/
namespace Go.Proofs.Ytoacmaloiaeniaa
open Go.RowKit

theorem small_f (n : Int) (r : Bool) (w : World) (hr : Hid (decide (n ≤ 2000) = r)) : Calls Try.prog 9 #[.int .i64 n] w fun e w' => e = .returned (.bool r) ∧ Below w.heap.size w w' := by
  have h := hr.out
  go_enter Try.func9, Try.ntmps9
  subst h
  go_wp2
  go_ret
  exact ⟨rfl, Below.refl _ _⟩

theorem checks_two (l : List Ch) (n m : Int) (v : Value) (w : World) (hlen : l.length ≤ 1048576) (hl : HCh w v l) (hn : n ≤ 9223372036854775807) (hm : m ≤ 9223372036854775807) (hbig : 2000 < n) :
    Calls Try.prog 3 #[v, .int .i64 n, .int .i64 m] w fun e w' => e = .returned (.bool true) ∧ Below w.heap.size w w' := by
  obtain ⟨ao, ca, rfl⟩ := Holds.form hl
  go_enter Try.func3, Try.ntmps3
  go_wp2_with fail
  refine (small_f n false w (decide_eq_false (by omega))).mono ?_
  rintro e w1 ⟨rfl, hB1⟩
  go_wp2_with fail
  refine (Check_f l n m (chk l n m) _ w1 (HCh.keep hl hB1 (Nat.le_refl _)) (by omega) hn hm rfl).mono ?_
  rintro e w2 ⟨rfl, hB2⟩
  have hB02 := hB1.trans (hB2.mono hB1.size)
  go_wp2_with fail
  refine (rCheck_f l n m (chk l n m) _ w2 (HCh.keep hl hB02 (Nat.le_refl _)) (by omega) hn hm rfl).mono ?_
  rintro e w3 ⟨rfl, hB3⟩
  have hB03 := hB02.trans (hB3.mono hB02.size)
  go_wp2
  go_ret
  exact ⟨rfl, hB03⟩
theorem checks_three (l : List Ch) (n m : Int) (v : Value) (w : World) (hlen : l.length ≤ 1048576) (hl : HCh w v l) (hn : n ≤ 2000) (hm : m ≤ 9223372036854775807) (hbig : 2000 < m) :
    Calls Try.prog 3 #[v, .int .i64 n, .int .i64 m] w fun e w' => e = .returned (.bool true) ∧ Below w.heap.size w w' := by
  obtain ⟨ao, ca, rfl⟩ := Holds.form hl
  go_enter Try.func3, Try.ntmps3
  go_wp2_with fail
  refine (small_f n true w (decide_eq_true (by omega))).mono ?_
  rintro e w0 ⟨rfl, hB0⟩
  go_wp2_with fail
  refine (small_f m false w0 (decide_eq_false (by omega))).mono ?_
  rintro e w1 ⟨rfl, hB1'⟩
  have hB1 := hB0.trans (hB1'.mono hB0.size)
  go_wp2_with fail
  refine (Check_f l n m (chk l n m) _ w1 (HCh.keep hl hB1 (Nat.le_refl _)) (by omega) (by omega) hm rfl).mono ?_
  rintro e w2 ⟨rfl, hB2⟩
  have hB02 := hB1.trans (hB2.mono hB1.size)
  go_wp2_with fail
  refine (rCheck_f l n m (chk l n m) _ w2 (HCh.keep hl hB02 (Nat.le_refl _)) (by omega) (by omega) hm rfl).mono ?_
  rintro e w3 ⟨rfl, hB3⟩
  have hB03 := hB02.trans (hB3.mono hB02.size)
  go_wp2
  go_ret
  exact ⟨rfl, hB03⟩
theorem checks_small (l : List Ch) (n m : Int) (v : Value) (w : World) (hlen : l.length ≤ 1048576) (hl : HCh w v l) (hn : n ≤ 2000) (hm : m ≤ 2000) :
    Calls Try.prog 3 #[v, .int .i64 n, .int .i64 m] w fun e w' => e = .returned (.bool true) ∧ Below w.heap.size w w' := by
  obtain ⟨ao, ca, rfl⟩ := Holds.form hl
  go_enter Try.func3, Try.ntmps3
  go_wp2_with fail
  refine (small_f n true w (decide_eq_true (by omega))).mono ?_
  rintro e w0 ⟨rfl, hB0⟩
  go_wp2_with fail
  refine (small_f m true w0 (decide_eq_true (by omega))).mono ?_
  rintro e w1 ⟨rfl, hB1'⟩
  have hB1 := hB0.trans (hB1'.mono hB0.size)
  have hl1 := HCh.keep hl hB1 (Nat.le_refl _)
  go_wp2_with (at_builtin; refine wpList_append_h _ (by kernel_rfl) (.tmp 29) (.tmp 30) 22 51 (.agg #[.int .i64 0, .int .i64 0, .int .i64 0, .int .i64 0]) 4 32 rfl Try.underlying22 infoCh rfl (by decide) (by decide) w1.heap.size _ 0 [] rfl (nil_row_new _ _ _ rfl (by omega)) _ l.length (chcells l) rfl ?hold3 (chcells_length l) (chcells_one l) (by omega) (by simp) ?_)
  case hold3 => exact HCh.keep hl1 ((Below.refl _ w1).alloc (Nat.le_refl _) _) (Nat.le_refl _)
  intro vl w3 hownl hgrow3
  have hB3 : Below w1.heap.size w1 w3 := ((Below.refl _ w1).alloc (Nat.le_refl _) _).grown hgrow3 (by simp) (fun j hj => by simp [Value.ownBlock] at hj; omega)
  have hl3 : HCh w3 vl l := by simpa [HCh] using holds_of hownl
  obtain ⟨lo, lc, rfl⟩ := Holds.form hl3
  have hB03 : Below w.heap.size w w3 := hB1.trans (hB3.mono hB1.size)
  have hl03 := HCh.keep hl hB03 (Nat.le_refl _)
  clear hownl hgrow3 hl1
  by_cases hS : Script l n m
  · have HSc : Hid (Script l n m) := hS
    clear hS
    go_wp2_with fail
    refine (Keep_ok l n m _ w3 hl3 HSc.out (by omega) (by omega) hlen).mono ?_
    rintro e w4 ⟨va, rfl, ha4, hB4⟩
    obtain ⟨xo, xc, rfl⟩ := Holds.form ha4
    have hl4 := HCh.keep hl3 hB4 (Nat.le_refl _)
    have hl04 := HCh.keep hl03 hB4 (Nat.le_refl _)
    have hB04 : Below w.heap.size w w4 := hB03.trans (hB4.mono hB03.size)
    go_wp2_with fail
    refine (rKeep_ok l n m _ w4 hl04 HSc.out (by omega) (by omega) hlen).mono ?_
    rintro e w5 ⟨vb, rfl, hb5, hB5⟩
    obtain ⟨yo, yc, rfl⟩ := Holds.form hb5
    have ha5 := HI.keep ha4 hB5 (Nat.le_refl _)
    have hKl : (keepL l n m).length ≤ 1099511627776 := by
      have := kr_length HSc.out.2.2
      have h : (keepL l n m).length = (kr 0 0 n m l).length := rfl
      omega
    have hl5 := HCh.keep hl4 hB5 (Nat.le_refl _)
    have hl05 := HCh.keep hl04 hB5 (Nat.le_refl _)
    have hB05 : Below w.heap.size w w5 := hB04.trans (hB5.mono hB04.size)
    go_wp2_with fail
    refine (Check_f l n m (chk l n m) _ w5 hl5 (by omega) (by omega) (by omega) rfl).mono ?_
    rintro e w6 ⟨rfl, hB6⟩
    have hB06 : Below w.heap.size w w6 := hB05.trans (hB6.mono hB05.size)
    go_wp2_with fail
    refine (rCheck_f l n m (chk l n m) _ w6 (HCh.keep hl hB06 (Nat.le_refl _)) (by omega) (by omega) (by omega) rfl).mono ?_
    rintro e w7 ⟨rfl, hB7⟩
    have hB07 : Below w.heap.size w w7 := hB06.trans (hB7.mono hB06.size)
    have hB57 : Below w5.heap.size w5 w7 := hB6.trans (hB7.mono hB6.size)
    go_wp2_with fail
    refine (SameI_any _ _ (keepL l n m) w7 hKl (HI.keep ha5 hB57 (Nat.le_refl _)) (HI.keep hb5 hB57 (Nat.le_refl _))).mono ?_
    rintro e w8 ⟨rfl, hB8⟩
    have hB08 : Below w.heap.size w w8 := hB07.trans (hB8.mono hB07.size)
    have hB58 : Below w5.heap.size w5 w8 := hB57.trans (hB8.mono hB57.size)
    go_wp2_with fail
    refine (Invert_f l (invL l) _ w8 (HCh.keep hl5 hB58 (Nat.le_refl _)) hlen rfl).mono ?_
    rintro e w9 ⟨vi, rfl, hi9, hB9⟩
    obtain ⟨io, ic, rfl⟩ := Holds.form hi9
    have hB09 : Below w.heap.size w w9 := hB08.trans (hB9.mono hB08.size)
    have hB59 : Below w5.heap.size w5 w9 := hB58.trans (hB9.mono hB58.size)
    go_wp2_with fail
    refine (rInvert_f l (invL l) _ w9 (HCh.keep hl hB09 (Nat.le_refl _)) hlen rfl).mono ?_
    rintro e wa ⟨vj, rfl, hja, hBa⟩
    obtain ⟨jo, jc, rfl⟩ := Holds.form hja
    have hB0a : Below w.heap.size w wa := hB09.trans (hBa.mono hB09.size)
    have hB5a : Below w5.heap.size w5 wa := hB59.trans (hBa.mono hB59.size)
    go_wp2_with fail
    refine (SameC_any _ _ (invL l) wa (by rw [invL, List.length_map]; omega) (HCh.keep hi9 hBa (Nat.le_refl _)) hja).mono ?_
    rintro e wb ⟨rfl, hBb⟩
    have hB0b : Below w.heap.size w wb := hB0a.trans (hBb.mono hB0a.size)
    have hB5b : Below w5.heap.size w5 wb := hB5a.trans (hBb.mono hB5a.size)
    go_wp2_with fail
    refine (Cost_f l (costF 0 l) _ wb (HCh.keep hl5 hB5b (Nat.le_refl _)) (by omega) rfl).mono ?_
    rintro e wc ⟨rfl, hBc⟩
    have hB0c : Below w.heap.size w wc := hB0b.trans (hBc.mono hB0b.size)
    have hB5c : Below w5.heap.size w5 wc := hB5b.trans (hBc.mono hB5b.size)
    go_wp2_with fail
    refine (rCost_f l (costF 0 l) _ wc (HCh.keep hl hB0c (Nat.le_refl _)) (by omega) rfl).mono ?_
    rintro e wd ⟨rfl, hBd⟩
    have hB0d : Below w.heap.size w wd := hB0c.trans (hBd.mono hB0c.size)
    have hB5d : Below w5.heap.size w5 wd := hB5c.trans (hBd.mono hB5c.size)
    go_wp2_with fail
    refine (SameC_any _ _ l wd (by omega) (HCh.keep hl5 hB5d (Nat.le_refl _)) (HCh.keep hl hB0d (Nat.le_refl _))).mono ?_
    rintro e we ⟨rfl, hBe⟩
    have hB0e : Below w.heap.size w we := hB0d.trans (hBe.mono hB0d.size)
    go_wp2
    go_ret
    exact ⟨rfl, hB0e⟩
  · have HSc : Hid (¬ Script l n m) := hS
    clear hS
    have hKl : ([] : List Int).length ≤ 1099511627776 := by simp
    go_wp2_with fail
    refine (Keep_no l n m _ w3 hl3 HSc.out (by omega) (by omega) hlen).mono ?_
    rintro e w4 ⟨rfl, hB4⟩
    have hl4 := HCh.keep hl3 hB4 (Nat.le_refl _)
    have hl04 := HCh.keep hl03 hB4 (Nat.le_refl _)
    have hB04 : Below w.heap.size w w4 := hB03.trans (hB4.mono hB03.size)
    go_wp2_with fail
    refine (rKeep_no l n m _ w4 hl04 HSc.out (by omega) (by omega) hlen).mono ?_
    rintro e w5 ⟨rfl, hB5⟩
    have hl5 := HCh.keep hl4 hB5 (Nat.le_refl _)
    have hB05 : Below w.heap.size w w5 := hB04.trans (hB5.mono hB04.size)
    have ha5 : HI w5 (.slice none 0 0) [] := holds_of (World.ownsRow_nil w5 0 3 1)
    have hb5 := ha5
    go_wp2_with fail
    refine (Check_f l n m (chk l n m) _ w5 hl5 (by omega) (by omega) (by omega) rfl).mono ?_
    rintro e w6 ⟨rfl, hB6⟩
    have hB06 : Below w.heap.size w w6 := hB05.trans (hB6.mono hB05.size)
    go_wp2_with fail
    refine (rCheck_f l n m (chk l n m) _ w6 (HCh.keep hl hB06 (Nat.le_refl _)) (by omega) (by omega) (by omega) rfl).mono ?_
    rintro e w7 ⟨rfl, hB7⟩
    have hB07 : Below w.heap.size w w7 := hB06.trans (hB7.mono hB06.size)
    have hB57 : Below w5.heap.size w5 w7 := hB6.trans (hB7.mono hB6.size)
    go_wp2_with fail
    refine (SameI_any _ _ ([]) w7 hKl (HI.keep ha5 hB57 (Nat.le_refl _)) (HI.keep hb5 hB57 (Nat.le_refl _))).mono ?_
    rintro e w8 ⟨rfl, hB8⟩
    have hB08 : Below w.heap.size w w8 := hB07.trans (hB8.mono hB07.size)
    have hB58 : Below w5.heap.size w5 w8 := hB57.trans (hB8.mono hB57.size)
    go_wp2_with fail
    refine (Invert_f l (invL l) _ w8 (HCh.keep hl5 hB58 (Nat.le_refl _)) hlen rfl).mono ?_
    rintro e w9 ⟨vi, rfl, hi9, hB9⟩
    obtain ⟨io, ic, rfl⟩ := Holds.form hi9
    have hB09 : Below w.heap.size w w9 := hB08.trans (hB9.mono hB08.size)
    have hB59 : Below w5.heap.size w5 w9 := hB58.trans (hB9.mono hB58.size)
    go_wp2_with fail
    refine (rInvert_f l (invL l) _ w9 (HCh.keep hl hB09 (Nat.le_refl _)) hlen rfl).mono ?_
    rintro e wa ⟨vj, rfl, hja, hBa⟩
    obtain ⟨jo, jc, rfl⟩ := Holds.form hja
    have hB0a : Below w.heap.size w wa := hB09.trans (hBa.mono hB09.size)
    have hB5a : Below w5.heap.size w5 wa := hB59.trans (hBa.mono hB59.size)
    go_wp2_with fail
    refine (SameC_any _ _ (invL l) wa (by rw [invL, List.length_map]; omega) (HCh.keep hi9 hBa (Nat.le_refl _)) hja).mono ?_
    rintro e wb ⟨rfl, hBb⟩
    have hB0b : Below w.heap.size w wb := hB0a.trans (hBb.mono hB0a.size)
    have hB5b : Below w5.heap.size w5 wb := hB5a.trans (hBb.mono hB5a.size)
    go_wp2_with fail
    refine (Cost_f l (costF 0 l) _ wb (HCh.keep hl5 hB5b (Nat.le_refl _)) (by omega) rfl).mono ?_
    rintro e wc ⟨rfl, hBc⟩
    have hB0c : Below w.heap.size w wc := hB0b.trans (hBc.mono hB0b.size)
    have hB5c : Below w5.heap.size w5 wc := hB5b.trans (hBc.mono hB5b.size)
    go_wp2_with fail
    refine (rCost_f l (costF 0 l) _ wc (HCh.keep hl hB0c (Nat.le_refl _)) (by omega) rfl).mono ?_
    rintro e wd ⟨rfl, hBd⟩
    have hB0d : Below w.heap.size w wd := hB0c.trans (hBd.mono hB0c.size)
    have hB5d : Below w5.heap.size w5 wd := hB5c.trans (hBd.mono hB5c.size)
    go_wp2_with fail
    refine (SameC_any _ _ l wd (by omega) (HCh.keep hl5 hB5d (Nat.le_refl _)) (HCh.keep hl hB0d (Nat.le_refl _))).mono ?_
    rintro e we ⟨rfl, hBe⟩
    have hB0e : Below w.heap.size w we := hB0d.trans (hBe.mono hB0d.size)
    go_wp2
    go_ret
    exact ⟨rfl, hB0e⟩
end Go.Proofs.Ytoacmaloiaeniaa
