/-
  The reference's Invert, walked.
-/
import Derived.Test.YtdnbfgobpkpedaaEdRK
namespace Go.Proofs.Ytdnbfgobpkpedaa
open Go.RowKit
attribute [local simp] low_drew

theorem new_holds_d (W : World) (cs : Array Value) (e : TypeId) (k c : Nat) (hkc : k ≤ c) : Holds (W.alloc (.cells cs e)).drew (.slice (some ⟨W.heap.size, 0, none⟩) k c) k cs.toList := by
  have := new_holds W cs e k c hkc
  exact this
theorem st_d {W : World} {e : TypeId} {s : Nat} {v : Value} {k : Nat} {xs : List Value} {w : World} (o : Obj) (h : St W e s v k xs w) : St W e s v k xs (w.alloc o).drew := (st_drew _ _ _ _ _ _ _).2 (st_alloc o h)

set_option maxRecDepth 10000 in
set_option maxHeartbeats 4000000 in
theorem rInvert_f (l L : List Ch) (v : Value) (w : World) (hl : HCh w v l) (hlen : l.length ≤ 1048576) (hL : Hid (invL l = L)) :
    Calls Try.prog 16 #[v] w fun e w' => ∃ v', e = .returned v' ∧ HCh w' v' L ∧ Below w.heap.size w w' := by
  obtain ⟨ao, ca, rfl⟩ := Holds.form hl
  go_enter Try.func16, Try.ntmps16
  go_wp2
  go_loopw [3, 4] (fun ov iv wr => ∃ (k : Nat) (X : List Ch), k ≤ l.length ∧ (∃ oo oc, ov = .slice oo X.length oc) ∧ iv = .int .i64 k ∧ St w 50 4 ov X.length (chcells X) wr ∧ X.length ≤ k ∧ Hid (X ++ invL (l.drop k) = L)) (fun _ iv _ => l.length - (intOf iv).toNat)
  case atStart => exact ⟨0, [], Nat.zero_le _, ⟨_, _, rfl⟩, rfl, ⟨World.ownsRow_nil _ _ _ _, Below.refl _ w⟩, Nat.zero_le _, hL⟩
  case round =>
    obtain ⟨k, X, hk, ⟨oo, oc, rfl⟩, rfl, hSt, hX, hR⟩ := hrel
    by_cases hlt : k < l.length
    · have hLow : Low w wr := hSt.low
      obtain ⟨bk, off, rfl, hbk, _⟩ := HCh.at (HCh.keep hl hSt.low (Nat.le_refl _)) (by omega)
      have hR' := hR.out
      rw [List.drop_eq_getElem_cons hlt] at hR'
      obtain ⟨c, hcd⟩ : ∃ c, l[k] = c := ⟨_, rfl⟩
      have HC : Hid (l[k] = c) := hcd
      rw [hcd] at hR'
      have HR : Hid (X ++ [inv c] ++ invL (l.drop (k + 1)) = L) := (by
        show _ = _
        rw [← hR', invL, invL, List.map_cons, List.append_assoc]
        rfl)
      clear hR' hcd hR
      obtain ⟨c0, c1, c2, c3⟩ := Low.ch hLow hl k hlt HC.out
      obtain ⟨A, AN, B, BN⟩ := c
      dsimp only at c0 c1 c2 c3
      have i1 : 0 ≤ (k : Int) := by omega
      have i2 : (k : Int) < (l.length : Int) := by omega
      have hxb : X.length + 1 ≤ 4398046511104 := by omega
      go_wp2_with fail
      have t0 : wr.drew.cell? ⟨bk, off + k * 4, none⟩ = some (.int .i64 A) := by simp [c0]
      have t1 : wr.drew.cell? ⟨bk, off + k * 4 + 1, none⟩ = some (.int .i64 AN) := by simp [c1]
      have t2 : wr.drew.cell? ⟨bk, off + k * 4 + 2, none⟩ = some (.int .i64 B) := by simp [c2]
      have t3 : wr.drew.cell? ⟨bk, off + k * 4 + 3, none⟩ = some (.int .i64 BN) := by simp [c3]
      obtain ⟨u0, u1, u2, u3⟩ := Low.ch ((low_drew _ _).2 (low_alloc (Obj.cells #[Value.int IntKind.i64 B, Value.int IntKind.i64 BN, Value.int IntKind.i64 A, Value.int IntKind.i64 AN] 50) hLow)) hl k hlt HC.out
      dsimp only at u0 u1 u2 u3
      go_region_held3 (fun w' => w'.cell? ⟨bk, off + k * 4, none⟩ = some (.int .i64 A) ∧ w'.cell? ⟨bk, off + k * 4 + 1, none⟩ = some (.int .i64 AN) ∧ w'.cell? ⟨bk, off + k * 4 + 2, none⟩ = some (.int .i64 B) ∧ w'.cell? ⟨bk, off + k * 4 + 3, none⟩ = some (.int .i64 BN)) (go_keep)
        (first | (refine step_append_h _ rfl (.tmp 11) (.tmp 33) 22 50 (.agg #[.int .i64 0, .int .i64 0, .int .i64 0, .int .i64 0]) 4 32 rfl Try.underlying22 infoCh rfl (by decide) (by decide) w.heap.size _ _ _ rfl (St.own (st_d _ hSt)) _ 1 (chcells [⟨B, BN, A, AN⟩]) rfl (new_holds_d _ _ _ _ _ (by decide)) rfl (chcells_one _) hxb (Below.size (St.low (st_d _ hSt))) ?_; intro v2 w2 hown2 hgrow2; have hSt2 := St.grown (st_d _ hSt) hown2 hgrow2; have hLow2 : Low w w2 := hSt2.low; obtain ⟨e0, e1, e2, e3⟩ := Low.ch hLow2 hl k hlt HC.out))
      dsimp only at e0 e1 e2 e3
      obtain ⟨oo2, oc2, rfl⟩ := (holds_of hown2).form
      rw [← chcells_append] at hSt2
      clear c0 c1 c2 c3 t0 t1 t2 t3 u0 u1 u2 u3 hSt hLow hown2 hgrow2
      go_wp2
      go_roundw
      case rel => exact ⟨k + 1, X ++ [⟨B, BN, A, AN⟩], by omega, ⟨_, _, by rw [List.length_append]; rfl⟩, by go_num, by rw [List.length_append]; exact hSt2, by simp; omega, HR⟩
      case measure => simp [intOf]; omega
    · have hR' := hR.out
      rw [List.drop_of_length_le (by omega), invL, List.map_nil, List.append_nil] at hR'
      subst hR'
      clear hR
      go_wp2
      go_ret
      exact ⟨_, rfl, holds_of hSt.own, hSt.low⟩
end Go.Proofs.Ytdnbfgobpkpedaa
