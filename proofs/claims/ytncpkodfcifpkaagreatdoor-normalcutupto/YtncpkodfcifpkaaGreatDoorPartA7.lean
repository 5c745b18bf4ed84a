/-
  Texts that belong together, joined: EdRApp, HuC8, HuC9, HuMk, HuCa, EdMk, HuLw, PaMath.
-/
import Derived.Test.YtncpkodfcifpkaaGreatDoorPartA6
import Derived.Test.YtncpkodfcifpkaaGreatDoorPartA5
import Derived.Test.YtncpkodfcifpkaaGreatDoorPartA4
import Derived.Test.YtncpkodfcifpkaaGreatDoorPartA3

/- What a script makes of a text: the reference's Apply, walked. -/
set_option maxRecDepth 20000
namespace Go.Proofs.YtncpkodfcifpkaaGreatDoor
open Go.RowKit
attribute [local simp] st_drew low_drew

theorem run_cut_to (A : List (List UInt8)) (ao : Option Addr) (cap : Nat) (i h : Int) (h0 : 0 ≤ i) (h1 : i ≤ h) (h2 : h ≤ A.length) (w : World) (hA : HS w (.slice ao A.length cap) A) :
    ∃ vo vc, (∀ u : World, (Instr.slice 23 (.slice ao A.length cap) (some (.int .i64 i)) (some (.int .i64 h)) none).run Tryz.prog u = .ok (.slice vo (cut A i (h - i)).length vc) u) ∧ (∀ u : World, HS u (.slice ao A.length cap) A → HS u (.slice vo (cut A i (h - i)).length vc) (cut A i (h - i))) := by
  obtain ⟨vs, h3, h4⟩ := run_cut A ao cap i (h - i) h0 (by omega) (by omega) w hA
  obtain ⟨vo, vc, rfl⟩ := Holds.form (h4 w hA)
  have e : i + (h - i) = h := by omega
  rw [e] at h3
  exact ⟨vo, vc, h3, h4⟩
theorem run_cut_end (A : List (List UInt8)) (ao : Option Addr) (cap : Nat) (i : Int) (h0 : 0 ≤ i) (h1 : i ≤ A.length) (w : World) (hA : HS w (.slice ao A.length cap) A) :
    ∃ vo vc, (∀ u : World, (Instr.slice 23 (.slice ao A.length cap) (some (.int .i64 i)) none none).run Tryz.prog u = .ok (.slice vo (cut A i (A.length - i)).length vc) u) ∧ (∀ u : World, HS u (.slice ao A.length cap) A → HS u (.slice vo (cut A i (A.length - i)).length vc) (cut A i (A.length - i))) := by
  obtain ⟨vo, vc, h3, h4⟩ := run_cut_to A ao cap i A.length h0 h1 (Int.le_refl _) w hA
  refine ⟨vo, vc, fun u => ?_, h4⟩
  rw [← h3 u]
  have hcap : A.length ≤ cap := by
    rcases hA with ⟨h, h3, _⟩ | ⟨ad, c, h, h3, _⟩
    · omega
    · cases h; exact h3
  rw [run_slice_l (P := Tryz.prog) u 23 ao A.length cap (by kernel_rfl) .i64 i h0 h1, run_slice_lh (P := Tryz.prog) u 23 ao A.length cap (by kernel_rfl) .i64 .i64 i A.length h0 h1 (by omega)]
  simp

theorem piecesL_length (a b n m : Int) (l : List Ch) : (piecesL a b n m l).length = l.length + 1 := by
  induction l generalizing a b with
  | nil => rfl
  | cons c l ih => simp [piecesL, ih]
theorem applyL_length (l : List Ch) (A B : List (List UInt8)) : (applyL l A B).length ≤ (l.length + 1) * (A.length + B.length) := by
  rw [← piecesL_length 0 0 A.length B.length l]
  unfold applyL
  generalize piecesL 0 0 A.length B.length l = ps
  induction ps with
  | nil => simp
  | cons x t ih =>
    have h1 : (pa A B x).length ≤ A.length + B.length := by simp [pa, cut]; omega
    simp only [List.flatMap_cons, List.length_append, List.length_cons]
    rw [Nat.add_mul]
    omega
/-- what the rest of a script makes -/
def restA (A B : List (List UInt8)) (a b : Int) (l : List Ch) : List (List UInt8) := (piecesL a b A.length B.length l).flatMap (pa A B)
theorem restA_cons (A B : List (List UInt8)) (a b : Int) (c : Ch) (l : List Ch) : restA A B a b (c :: l) = cut A a (c.A - a) ++ cut B c.B c.BN ++ restA A B (c.A + c.AN) (c.B + c.BN) l := by simp [restA, piecesL, pa]
theorem restA_nil (A B : List (List UInt8)) (a b : Int) : restA A B a b [] = cut A a (A.length - a) := by simp [restA, piecesL, pa, cut]

end Go.Proofs.YtncpkodfcifpkaaGreatDoor

/- The code's closure that lays the lines of a hunk, walked: the hunk in a box of one's own. -/
set_option maxRecDepth 20000
namespace Go.Proofs.YtncpkodfcifpkaaGreatDoor
open Go.RowKit

/-- a hunk that grows in a box: its lines in a row of one's own, all else as it was -/
structure La (w : World) (q : Hk) (ov : Value) (u : World) : Prop where
  low : Below w.heap.size w u
  box : Hx u w.heap.size q ov
  own : u.ownsRow (w.heap.size + 1) 91 2 ov q.ls.length (mkcells q.ls)
/-- boxed changes stay -/
def CK (u u' : World) : Prop := ∀ B c, Cx u B c → Cx u' B c
theorem ck_refl (u : World) : CK u u := fun _ _ h => h
theorem ck_trans {u u' u'' : World} (h : CK u u') (h' : CK u' u'') : CK u u'' := fun B c q => h' B c (h B c q)
theorem ck_low {u u' : World} (h : Below u.heap.size u u') : CK u u' := fun _ _ q => q.low h
theorem cx_neM {u : World} {b : Nat} {d : Ch} (h : Cx u b d) {B s n : Nat} {v : Value} {xs : List Value} (ho : u.ownsRow B 91 s v n xs) : v.ownBlock ≠ some b := by
  intro e
  rcases ho.2 with ⟨rfl, _⟩ | ⟨g, cap, cur, rfl, _, hg, _⟩
  · cases e
  · simp only [Value.ownBlock, Option.some.injEq] at e
    subst e
    unfold Cx chO at h
    rw [h] at hg
    simp at hg
theorem cx_neH {u : World} {b b' : Nat} {d : Ch} (h : Cx u b d) {q : Hk} {v : Value} (hx : Hx u b' q v) : b ≠ b' := by
  rintro rfl
  unfold Cx chO at h
  unfold Hx hkO at hx
  rw [h] at hx
  simp at hx
section
variable {w u u' : World} {q : Hk} {ov ov' : Value} {x' : List Mk}
theorem La.alloc (h : La w q ov u) (o : Obj) : La w q ov (u.alloc o) := ⟨h.low.alloc h.low.size o, h.box.low ((Below.refl _ u).alloc (Nat.le_refl _) o), h.own.alloc o⟩
theorem La.drewN (h : La w q ov u) (n : Nat) : La w q ov (u.drewN n) := ⟨Below.dN h.low n, h.box, h.own⟩
theorem La.keep (h : La w q ov u) (hk : Below u.heap.size u u') : La w q ov u' := ⟨h.low.trans (hk.mono h.low.size), h.box.low hk, owns_keep h.own hk⟩
theorem La.ck (h : La w q ov u) (j : Nat) (z : Value) : CK u (u.setCell ⟨w.heap.size, j, none⟩ z) := fun _ _ p => p.keep (grown_set u _ j z) (fun e => cx_neH p h.box (Option.some.inj e))
/-- lines more -/
theorem La.grow (h : La w q ov u) (hg : u.grownBy u' ov.ownBlock) (ho : u'.ownsRow (w.heap.size + 1) 91 2 ov' x'.length (mkcells x')) : Hx u' w.heap.size q ov ∧ La w ⟨q.A, q.AN, q.B, q.BN, x'⟩ ov' (u'.setCell ⟨w.heap.size, 4, none⟩ ov') ∧ CK u (u'.setCell ⟨w.heap.size, 4, none⟩ ov') := by
  have hbx : Hx u' w.heap.size q ov := h.box.keep hg (fun e => by have := owns_ge h.own e.symm; omega)
  have hs := grown_set u' w.heap.size 4 ov'
  have hlow : Below w.heap.size w u' := h.low.grown hg h.low.size (fun j hj => by have := owns_ge h.own hj; omega)
  refine ⟨hbx, ⟨hlow.grown hs hlow.size (fun j hj => by cases hj; exact Nat.le_refl _), hbx.setl ov', own_kept ho hs ?_⟩, ?_⟩
  · intro k hk e
    cases hk
    have := owns_ge ho e
    omega
  · intro B c p
    have p1 := p.keep hg (fun e => cx_neM p h.own e.symm)
    exact p1.keep hs (fun e => cx_neH p1 hbx (Option.some.inj e))
theorem La.own_set (h : La w q ov u) (j : Nat) (z : Value) : Below w.heap.size w (u.setCell ⟨w.heap.size, j, none⟩ z) ∧ (u.setCell ⟨w.heap.size, j, none⟩ z).ownsRow (w.heap.size + 1) 91 2 ov q.ls.length (mkcells q.ls) := by
  have hs := grown_set u w.heap.size j z
  refine ⟨h.low.grown hs h.low.size (fun j hj => by cases hj; exact Nat.le_refl _), own_kept h.own hs ?_⟩
  intro k hk e
  cases hk
  have := owns_ge h.own e
  omega
/-- a number is written -/
theorem La.setA (h : La w q ov u) (z : Int) : La w ⟨z, q.AN, q.B, q.BN, q.ls⟩ ov (u.setCell ⟨w.heap.size, 0, none⟩ (.int .i64 z)) := ⟨(h.own_set 0 _).1, heap_setCell_same u _ 0 _ _ _ h.box, (h.own_set 0 _).2⟩
theorem La.setAN (h : La w q ov u) (z : Int) : La w ⟨q.A, z, q.B, q.BN, q.ls⟩ ov (u.setCell ⟨w.heap.size, 1, none⟩ (.int .i64 z)) := ⟨(h.own_set 1 _).1, heap_setCell_same u _ 1 _ _ _ h.box, (h.own_set 1 _).2⟩
theorem La.setB (h : La w q ov u) (z : Int) : La w ⟨q.A, q.AN, z, q.BN, q.ls⟩ ov (u.setCell ⟨w.heap.size, 2, none⟩ (.int .i64 z)) := ⟨(h.own_set 2 _).1, heap_setCell_same u _ 2 _ _ _ h.box, (h.own_set 2 _).2⟩
theorem La.setBN (h : La w q ov u) (z : Int) : La w ⟨q.A, q.AN, q.B, z, q.ls⟩ ov (u.setCell ⟨w.heap.size, 3, none⟩ (.int .i64 z)) := ⟨(h.own_set 3 _).1, heap_setCell_same u _ 3 _ _ _ h.box, (h.own_set 3 _).2⟩
end
theorem pk_mks {no sg : Int} (t : List (List UInt8)) : pkL no (mks sg t) = if sg ≠ no ∧ okS sg = true then t else [] := by
  induction t with
  | nil => simp [mks, pkL]
  | cons s t ih =>
    rw [mks_cons, pkL, ih]
    split <;> rfl
theorem mks_length (sg : Int) (t : List (List UInt8)) : (mks sg t).length = t.length := by simp [mks]

set_option maxRecDepth 10000 in
set_option maxHeartbeats 4000000 in
theorem hlay_f (w u : World) (q : Hk) (ov : Value) (sg : Int) (t : List (List UInt8)) (vt : Value) (hL : La w q ov u) (hsg : sg = 32 ∨ sg = 45 ∨ sg = 43) (ht : HS w vt t) (hlen : q.ls.length + t.length ≤ 1099511627776) (han : 0 ≤ q.AN ∧ q.AN ≤ 4611686018427387904) (hbn : 0 ≤ q.BN ∧ q.BN ≤ 4611686018427387904) (an bn : Int) (x' : List Mk) (HAN : Hid (q.AN + ((pkL 43 (mks sg t)).length : Int) = an)) (HBN : Hid (q.BN + ((pkL 45 (mks sg t)).length : Int) = bn)) (HX : Hid (q.ls ++ mks sg t = x')) : Calls Tryz.prog 45 #[.int .u8 sg, vt, .pointer (some ⟨w.heap.size, 0, none⟩)] u fun e u' => e = .returned (.tuple #[]) ∧ (∃ ov', La w ⟨q.A, an, q.B, bn, x'⟩ ov' u') ∧ CK u u' := by
  obtain ⟨tO, tc, rfl⟩ := Holds.form ht
  obtain ⟨A, AN, B, BN, ls⟩ := q
  dsimp only at hlen han hbn HAN HBN HX ⊢
  go_enter Tryz.func45, Tryz.ntmps45
  go_wp2
  go_loopw [9] (fun iv wr => ∃ (k : Nat) (ov : Value) (x : List Mk), k ≤ t.length ∧ iv = .int .i64 (k : Int) ∧ x.length = ls.length + k ∧ La w ⟨A, AN, B, BN, x⟩ ov wr ∧ CK u wr ∧ Hid (x ++ mks sg (t.drop k) = x')) (fun iv _ => t.length - (intOf iv).toNat)
  case atStart => exact ⟨0, ov, ls, Nat.zero_le _, by go_num, rfl, hL, ck_refl _, HX⟩
  case round =>
    obtain ⟨k, ov, x, hk, rfl, hxl, hL, hck, HI⟩ := hrel
    clear HX
    obtain ⟨oo, oc, hov⟩ := (holds_of hL.own).form
    subst hov
    obtain ⟨b0, b1, b2, b3, b4⟩ := hL.box.cells
    dsimp only at b0 b1 b2 b3 b4
    by_cases hlt : k < t.length
    · obtain ⟨tb, tf, rfl, _, htc⟩ := HS.at (HS.keep ht hL.low (Nat.le_refl _)) (by omega)
      obtain ⟨tx, htx⟩ : ∃ tx, t[k] = tx := ⟨_, rfl⟩
      have c0 := htc k hlt
      rw [htx] at c0
      have HI2 : Hid (x ++ [⟨sg, tx⟩] ++ mks sg (t.drop (k + 1)) = x') := (by
        have h := HI.out
        rw [List.drop_eq_getElem_cons hlt, htx, mks_cons] at h
        show _ = _
        rw [← h]
        simp)
      have i1 : 0 ≤ (k : Int) := by omega
      have i2 : (k : Int) < (t.length : Int) := by omega
      have hL2 := hL.alloc (mkO ⟨sg, tx⟩)
      have hck2 := ck_trans hck (ck_low ((Below.refl _ wr).alloc (Nat.le_refl _) (mkO ⟨sg, tx⟩)))
      have hrow := mk_row wr ⟨sg, tx⟩
      have hbl := hL.box.lt
      have HS2 : Hid ((wr.alloc (mkO ⟨sg, tx⟩)).heap.size = wr.heap.size + 1) := (by show _ = _; simp)
      have hW : wr.alloc (Obj.cells #[Value.int IntKind.u8 sg, Value.string ⟨tx.toArray⟩] 91) = wr.alloc (mkO ⟨sg, tx⟩) := rfl
      have hxk : x.length + 1 ≤ 2199023255552 := by omega
      have HXL : Hid (x.length = ls.length + k) := hxl
      clear HI htx htc hxl
      go_wp2_with (at_builtin; refine wpList_append_w _ (by kernel_rfl) (.tmp 14) (.tmp 18) 50 91 (.agg #[.int .u8 0, .string ⟨#[]⟩]) 2 24 rfl Tryz.underlying50 infoMk rfl (by decide) (by decide) (w.heap.size + 1) _ _ _ rfl hL2.own _ 1 (mkcells [⟨sg, tx⟩]) rfl hrow (mkcells_length _) (mkcells_one _) hxk (by have := HS2.out; omega) ?_)
      intro v3 u3 hown3 hg3 _
      rw [← mkcells_append] at hown3
      obtain ⟨o3, c3, rfl⟩ := (holds_of hown3).form
      obtain ⟨hbx3, hL4, hck4⟩ := hL2.grow (x' := x ++ [⟨sg, tx⟩]) hg3 (by rw [List.length_append]; exact hown3)
      obtain ⟨f0, f1, f2, f3, f4⟩ := hbx3.cells
      have ff := hbx3.frozen 4
      clear hW hg3 hown3
      go_wp2
      exact ⟨⟨k + 1, _, x ++ [⟨sg, tx⟩], by omega, by go_num, by have := HXL.out; simp; omega, hL4, ck_trans hck2 hck4, HI2⟩, by simp [intOf]; omega⟩
    · have HX2 : Hid (x = x') := (by
        have h := HI.out
        rw [List.drop_of_length_le (by omega)] at h
        show x = x'
        simpa [mks] using h)
      have hend : decide ((k : Int) < (t.length : Int)) = false := decide_eq_false (by omega)
      have hf1 := hL.box.frozen 1
      have hf3 := hL.box.frozen 3
      have HP1 := pk_mks (no := 43) (sg := sg) t
      have HP2 := pk_mks (no := 45) (sg := sg) t
      rw [HP1] at HAN
      rw [HP2] at HBN
      clear HI HP1 HP2 hxl
      rcases hsg with rfl | rfl | rfl
      · have hA : Hid (AN + (t.length : Int) = an) := (by have h := HAN.out; rw [if_pos (by decide)] at h; exact h)
        have hB : Hid (BN + (t.length : Int) = bn) := (by have h := HBN.out; rw [if_pos (by decide)] at h; exact h)
        have hL4 := hL.setAN (AN + (t.length : Int))
        have hk4 := hL.ck 1 (.int .i64 (AN + (t.length : Int)))
        have hL5 := hL4.setBN (BN + (t.length : Int))
        have hk5 := hL4.ck 3 (.int .i64 (BN + (t.length : Int)))
        obtain ⟨g0, g1, g2, g3, g4⟩ := hL4.box.cells
        dsimp only at g0 g1 g2 g3 g4
        have hg3 := hL4.box.frozen 3
        clear HAN HBN
        go_wp2
        (try simp only [Exit.inBlock, Exit.then])
        first | refine bodyPost_ret (results_none rfl _ _ _) rfl ?_ | refine bodyPost_end (results_none rfl _ _ _) rfl ?_
        refine ⟨rfl, ⟨.slice oo x.length oc, ?_⟩, ck_trans hck (ck_trans hk4 hk5)⟩
        rw [← hA.out, ← hB.out, ← HX2.out]
        exact hL5
      · have hA : Hid (AN + (t.length : Int) = an) := (by have h := HAN.out; rw [if_pos (by decide)] at h; exact h)
        have hB : Hid (BN = bn) := (by have h := HBN.out; rw [if_neg (by decide)] at h; show _ = _; simpa using h)
        have hL4 := hL.setAN (AN + (t.length : Int))
        have hk4 := hL.ck 1 (.int .i64 (AN + (t.length : Int)))
        clear HAN HBN
        go_wp2
        (try simp only [Exit.inBlock, Exit.then])
        first | refine bodyPost_ret (results_none rfl _ _ _) rfl ?_ | refine bodyPost_end (results_none rfl _ _ _) rfl ?_
        refine ⟨rfl, ⟨.slice oo x.length oc, ?_⟩, ck_trans hck hk4⟩
        rw [← hA.out, ← hB.out, ← HX2.out]
        exact hL4
      · have hA : Hid (AN = an) := (by have h := HAN.out; rw [if_neg (by decide)] at h; show _ = _; simpa using h)
        have hB : Hid (BN + (t.length : Int) = bn) := (by have h := HBN.out; rw [if_pos (by decide)] at h; exact h)
        have hL4 := hL.setBN (BN + (t.length : Int))
        have hk4 := hL.ck 3 (.int .i64 (BN + (t.length : Int)))
        clear HAN HBN
        go_wp2
        (try simp only [Exit.inBlock, Exit.then])
        first | refine bodyPost_ret (results_none rfl _ _ _) rfl ?_ | refine bodyPost_end (results_none rfl _ _ _) rfl ?_
        refine ⟨rfl, ⟨.slice oo x.length oc, ?_⟩, ck_trans hck hk4⟩
        rw [← hA.out, ← hB.out, ← HX2.out]
        exact hL4
end Go.Proofs.YtncpkodfcifpkaaGreatDoor

/- The code's hunk of a group, layer 11, walked. -/
set_option maxRecDepth 20000
namespace Go.Proofs.YtncpkodfcifpkaaGreatDoor
open Go.RowKit

/-- a hunk that grows, counted -/
def Lb (w : World) (x : List Mk) (u : World) : Prop := ∃ (ov : Value) (an bn : Int), La w ⟨0, an, 0, bn, x⟩ ov u ∧ ((pkL 43 x).length : Int) = an ∧ ((pkL 45 x).length : Int) = bn
theorem Lb.alloc {w u : World} {x : List Mk} (h : Lb w x u) (o : Obj) : Lb w x (u.alloc o) := by
  obtain ⟨ov, an, bn, h1, h2⟩ := h
  exact ⟨ov, an, bn, h1.alloc o, h2⟩
theorem Lb.low {w u : World} {x : List Mk} (h : Lb w x u) : Below w.heap.size w u := by
  obtain ⟨ov, an, bn, h1, h2⟩ := h
  exact h1.low
theorem pk_add (no : Int) (x y : List Mk) : ((pkL no x).length : Int) + ((pkL no y).length : Int) = ((pkL no (x ++ y)).length : Int) := by
  rw [pkL_append, List.length_append]
  omega
theorem hlay2_f (w u : World) (x : List Mk) (sg : Int) (t : List (List UInt8)) (vt : Value) (hL : Lb w x u) (hsg : sg = 32 ∨ sg = 45 ∨ sg = 43) (ht : HS w vt t) (x' : List Mk) (HX : Hid (x ++ mks sg t = x')) (hlen : x'.length ≤ 1099511627776) : Calls Tryz.prog 45 #[.int .u8 sg, vt, .pointer (some ⟨w.heap.size, 0, none⟩)] u fun e u' => e = .returned (.tuple #[]) ∧ Lb w x' u' ∧ CK u u' := by
  obtain ⟨ov, an, bn, h1, h2, h3⟩ := hL
  have e1 := pkL_length 43 x
  have e2 := pkL_length 45 x
  have hl : x.length + t.length = x'.length := by rw [← HX.out, List.length_append, mks_length]
  have h4 : an + ((pkL 43 (mks sg t)).length : Int) = ((pkL 43 x').length : Int) := by rw [← h2, ← HX.out]; exact pk_add 43 _ _
  have h5 : bn + ((pkL 45 (mks sg t)).length : Int) = ((pkL 45 x').length : Int) := by rw [← h3, ← HX.out]; exact pk_add 45 _ _
  refine (hlay_f w u ⟨0, an, 0, bn, x⟩ ov sg t vt h1 hsg ht (by dsimp only; omega) (by dsimp only; omega) (by dsimp only; omega) _ _ x' h4 h5 HX).mono ?_
  rintro e u' ⟨rfl, ⟨ov', h6⟩, h7⟩
  exact ⟨rfl, ⟨ov', _, _, h6, rfl, rfl⟩, h7⟩
theorem exec_subI {u : World} {p q : Int} (h : IntKind.i64.wrap (p - q) = p - q) {op : Oper} (x y : Operand) (ho : op.op = .binOp .sub 3 x y 3) {ev : Operand → Value} (hx : ev x = .int .i64 p) (hy : ev y = .int .i64 q) :
    (execOp ev op).run Tryz.prog u = .ok (.value (.int .i64 (p - q))) u := by
  simp only [execOp, ho, hx, hy]
  go_simp
theorem exec_storeI {u : World} {a : Addr} (hf : u.frozen? a = false) {z0 : Int} (hc : u.cell? a = some (.int .i64 z0)) {z : Int} {op : Oper} (x y : Operand) (ho : op.op = .store 3 x y) {ev : Operand → Value} (hx : ev x = .pointer (some a)) (hy : ev y = .int .i64 z) :
    (execOp ev op).run Tryz.prog u = .ok .skip (u.setCell a (.int .i64 z)) := by
  simp only [execOp, ho, hx, hy]
  go_simp

set_option maxRecDepth 10000 in
set_option maxHeartbeats 16000000 in
theorem haround_f (g rest : List Ch) (f : Ch) (a b : List (List UInt8)) (ctx : Int) (vg va vb : Value) (w : World) (hg : HCh w vg (f :: g)) (ha : HS w va a) (hb : HS w vb b) (hal : a.length ≤ 1099511627776) (hbl : b.length ≤ 1099511627776) (hgl : g.length ≤ 1099511627776) (hc : 0 ≤ ctx ∧ ctx ≤ 100) (hR : Right true (f.A - min ctx f.A) (f.B - min ctx f.A) a.length b.length (f :: g ++ rest))
    (hfb : 0 ≤ f.B - min ctx f.A) (hnl : ∀ c ∈ f :: g, 0 ≤ c.A ∧ c.A ≤ 2147483647 ∧ 0 ≤ c.AN ∧ c.AN ≤ 2147483647) (R : Hk) (HR : Hid (oneH a b ctx (f :: g) = R)) (hRl : R.ls.length ≤ 549755813888) : Calls Tryz.prog 27 #[vg, va, vb, .int .i64 ctx] w fun e w' => ∃ v', e = .returned (hkV R v') ∧ w'.ownsRow w.heap.size 91 2 v' R.ls.length (mkcells R.ls) ∧ Below w.heap.size w w' := by
  obtain ⟨go, gc, rfl⟩ := Holds.form hg
  obtain ⟨ao, ac, rfl⟩ := Holds.form ha
  obtain ⟨bo, bc, rfl⟩ := Holds.form hb
  obtain ⟨gb, gf, rfl, _, hgc⟩ := HCh.at hg (by simp)
  have p0 := hgc 0 (by simp)
  rw [List.getElem_cons_zero] at p0
  clear hgc
  obtain ⟨N, hN⟩ : ∃ N, g.length = N := ⟨_, rfl⟩
  have HNN : Hid (g.length = N) := hN
  rw [hN] at hgl
  rw [List.length_cons, hN] at hg ⊢
  clear hN
  have hnf := hnl f (by simp)
  have hRf := hR
  rw [List.cons_append] at hRf
  have hnumf := (numB_iff f).1 hRf.1.1
  obtain ⟨m, hm⟩ : ∃ m, min ctx f.A = m := ⟨_, rfl⟩
  have hm1 : (if f.A < ctx then f.A else ctx) = m := by rw [← hm]; split <;> omega
  have hmb : 0 ≤ m ∧ m ≤ f.A ∧ m ≤ ctx := by omega
  obtain ⟨E, hE⟩ : ∃ E, endH a.length ctx (f :: g) = E := ⟨_, rfl⟩
  obtain ⟨RL, hRL⟩ : ∃ RL, bodyH a b E (f.A - m) (f :: g) = RL := ⟨_, rfl⟩
  have HRR : Hid (R = cntH (f.A - m) (f.B - m) RL) := (by
    show _ = _
    rw [← HR.out]
    show cntH (f.A - min ctx f.A) (f.B - min ctx f.A) (bodyH a b (endH a.length ctx (f :: g)) (f.A - min ctx f.A) (f :: g)) = _
    rw [hm, hE, hRL])
  have hRLl : RL.length ≤ 549755813888 := by have := hRl; rw [HRR.out] at this; exact this
  have HEE : Hid (min (a.length : Int) (endA (f.A - m) (f :: g) + ctx) = E) := (by show _ = _; rw [← hE, endH_eq _ _ _ _ (f.A - m)])
  have HRL : Hid (bodyH a b E (f.A - m) (f :: g) = RL) := hRL
  rw [hm] at hR hfb
  have HRT : Hid (Right true (f.A - m) (f.B - m) a.length b.length (f :: g ++ rest) ∧ 0 ≤ f.B - m) := ⟨hR, hfb⟩
  have HNL : Hid (∀ c ∈ f :: g, 0 ≤ c.A ∧ c.A ≤ 2147483647 ∧ 0 ≤ c.AN ∧ c.AN ≤ 2147483647) := hnl
  have HRLL : Hid (R.ls.length = RL.length) := (by show _ = _; rw [HRR.out]; rfl)
  clear hRL hR HR hE hm hRf hnl hRl
  -- the boxes
  have hz0 := Hx.new w ⟨0, 0, 0, 0, []⟩ (.slice none 0 0)
  have hB0 : Below w.heap.size w (w.alloc (hkO ⟨0, 0, 0, 0, []⟩ (.slice none 0 0))) := (Below.refl _ w).alloc (Nat.le_refl _) _
  have HW1 : Hid ((w.alloc (hkO ⟨0, 0, 0, 0, []⟩ (.slice none 0 0))).heap.size = w.heap.size + 1) := (by show _ = _; simp)
  have hWa : w.alloc (Obj.cells #[Value.int IntKind.i64 0, Value.int IntKind.i64 0, Value.int IntKind.i64 0, Value.int IntKind.i64 0, .slice none 0 0] 52) = w.alloc (hkO ⟨0, 0, 0, 0, []⟩ (.slice none 0 0)) := rfl
  generalize hW1 : w.alloc (hkO ⟨0, 0, 0, 0, []⟩ (.slice none 0 0)) = W1 at *
  have hB1 : Below W1.heap.size W1 (W1.alloc (hkO ⟨0, 0, 0, 0, []⟩ (.slice none 0 0))) := (Below.refl _ W1).alloc (Nat.le_refl _) _
  have hLb : Lb W1 [] (W1.alloc (hkO ⟨0, 0, 0, 0, []⟩ (.slice none 0 0))) := ⟨_, 0, 0, ⟨hB1, Hx.new W1 _ _, hnil_row _ _ _ _⟩, rfl, rfl⟩
  have HW2 : Hid ((W1.alloc (hkO ⟨0, 0, 0, 0, []⟩ (.slice none 0 0))).heap.size = W1.heap.size + 1) := (by show _ = _; simp)
  have hWb : W1.alloc (Obj.cells #[Value.int IntKind.i64 0, Value.int IntKind.i64 0, Value.int IntKind.i64 0, Value.int IntKind.i64 0, .slice none 0 0] 52) = W1.alloc (hkO ⟨0, 0, 0, 0, []⟩ (.slice none 0 0)) := rfl
  generalize hW2 : W1.alloc (hkO ⟨0, 0, 0, 0, []⟩ (.slice none 0 0)) = W2 at *
  have hB02 := hB0.trans (hB1.mono hB0.size)
  have r0 : ChAt W2 gb (gf + 0 * 4) f := ChAt.low p0 hB02
  rw [show gf + 0 * 4 = gf by omega] at r0
  obtain ⟨q0, q1, q2, q3⟩ := r0
  have hc11 := Cx.new W2 f
  have hLb2 := hLb.alloc (chO f)
  obtain ⟨x0, x1, x2, x3⟩ := hc11.cells
  have hWc : W2.alloc (Obj.cells #[Value.int IntKind.i64 f.A, Value.int IntKind.i64 f.AN, Value.int IntKind.i64 f.B, Value.int IntKind.i64 f.BN] 49) = W2.alloc (chO f) := rfl
  clear p0 hW1 hW2 hLb
  generalize hW3 : W2.alloc (chO f) = W3 at *
  have n1 : (0 : Int) < (N : Int) + 1 := by omega
  go_enter Tryz.func27, Tryz.ntmps27
  go_wp2
  clear hWa hWb hWc q0 q1 q2 q3 x0 x1 x2 x3 hW3
  generalize hB11 : W2.heap.size = B11 at *
  have hA1 : HS W1 (.slice ao a.length ac) a := HS.keep ha hB0 (Nat.le_refl _)
  have hA2 : HS W1 (.slice bo b.length bc) b := HS.keep hb hB0 (Nat.le_refl _)
  go_loopw [13, 30] (fun nv iv wr => ∃ (i : Nat) (p q : Int) (fl : Bool) (x : List Mk), i ≤ N + 1 ∧ nv = .int .i64 p ∧ iv = .int .i64 (i : Int) ∧ (0 ≤ p ∧ p ≤ 4294967296) ∧ Lb W1 x wr ∧ Cx wr B11 f ∧ Hid (min (a.length : Int) (endA p ((f :: g).drop i) + ctx) = E) ∧ Hid (Right fl p q a.length b.length ((f :: g).drop i ++ rest) ∧ 0 ≤ q) ∧ Hid (x ++ bodyH a b E p ((f :: g).drop i) = RL)) (fun _ iv _ => N + 1 - (intOf iv).toNat)
  case atStart => exact ⟨0, f.A - m, f.B - m, true, [], Nat.zero_le _, rfl, by go_num, by omega, hLb2, hc11, HEE, HRT, HRL⟩
  case round =>
    obtain ⟨i, p, q, fl, x, hi, rfl, rfl, hpb, hL, hc11, HEi, HRi, HI⟩ := hrel
    clear HEE HRT HRL hLb2
    have hBw : Below w.heap.size w wr := hB0.trans (hL.low.mono hB0.size)
    by_cases hlt : i < N + 1
    · have hil : i < (f :: g).length := by rw [List.length_cons, HNN.out]; exact hlt
      obtain ⟨c, hci⟩ : ∃ c, (f :: g)[i] = c := ⟨_, rfl⟩
      have hdr : (f :: g).drop i = c :: (f :: g).drop (i + 1) := by rw [List.drop_eq_getElem_cons hil, hci]
      have hgA : ChAt wr gb (gf + i * 4) c := (by
        have hg2 : HCh w (.slice (some ⟨gb, gf, none⟩) (N + 1) gc) (f :: g) := hg
        obtain ⟨b', off', e, _, hc'⟩ := HCh.at (HCh.keep hg2 hBw (Nat.le_refl _)) (by simp)
        cases e
        have := hc' i hil
        rw [hci] at this
        exact this)
      have hncl := HNL.out c (by rw [← hci]; exact List.getElem_mem hil)
      have hRi := HRi.out
      rw [hdr, List.cons_append] at hRi
      obtain ⟨⟨⟨k1, k2, k3, k4⟩, k5⟩, hq0⟩ := hRi
      have k1' := (numB_iff c).1 k1
      have k6 := k5.le
      have HRn : Hid (Right false (c.A + c.AN) (c.B + c.BN) a.length b.length ((f :: g).drop (i + 1) ++ rest) ∧ 0 ≤ c.B + c.BN) := ⟨k5, by omega⟩
      have HEn : Hid (min (a.length : Int) (endA (c.A + c.AN) ((f :: g).drop (i + 1)) + ctx) = E) := (by have h := HEi.out; rw [hdr] at h; exact h)
      have HI1 : Hid (x ++ bodyH a b E p (c :: (f :: g).drop (i + 1)) = RL) := (by have h := HI.out; rw [hdr] at h; exact h)
      obtain ⟨cA, cAN, cB, cBN⟩ := c
      dsimp only at k1' k2 k3 k4 k5 k6 HRn HEn hncl
      obtain ⟨RS, hRS⟩ : ∃ r, bodyH a b E (cA + cAN) ((f :: g).drop (i + 1)) = r := ⟨_, rfl⟩
      have HRS : Hid (bodyH a b E (cA + cAN) ((f :: g).drop (i + 1)) = RS) := hRS
      obtain ⟨v1o, v1c, r1, h1⟩ := run_cut_to a ao ac p cA hpb.1 k3 (by omega) W1 hA1
      obtain ⟨t1, ht1⟩ : ∃ t, cut a p (cA - p) = t := ⟨_, rfl⟩
      obtain ⟨v2, r2, h2⟩ := run_cut a ao ac cA cAN (by omega) (by omega) (by omega) W1 hA1
      obtain ⟨t2, ht2⟩ : ∃ t, cut a cA cAN = t := ⟨_, rfl⟩
      obtain ⟨v3, r3, h3⟩ := run_cut b bo bc cB cBN (by omega) (by omega) (by omega) W1 hA2
      obtain ⟨t3, ht3⟩ : ∃ t, cut b cB cBN = t := ⟨_, rfl⟩
      have s1 := h1 W1 hA1
      have s2 := h2 W1 hA1
      have s3 := h3 W1 hA2
      rw [ht1] at r1 s1
      rw [ht2] at s2
      rw [ht3] at s3
      obtain ⟨v2o, v2c, rfl⟩ := Holds.form s2
      obtain ⟨v3o, v3c, rfl⟩ := Holds.form s3
      obtain ⟨x1, hx1⟩ : ∃ y, x ++ mks 32 t1 = y := ⟨_, rfl⟩
      obtain ⟨x2, hx2⟩ : ∃ y, x1 ++ mks 45 t2 = y := ⟨_, rfl⟩
      obtain ⟨x3, hx3⟩ : ∃ y, x2 ++ mks 43 t3 = y := ⟨_, rfl⟩
      have hI3 : x3 ++ RS = RL := (by
        have h := HI1.out
        simp only [bodyH] at h
        rw [ht1, ht2, ht3, hRS] at h
        rw [← hx3, ← hx2, ← hx1, ← h]
        simp)
      have HX1 : Hid (x ++ mks 32 t1 = x1) := hx1
      have HX2 : Hid (x1 ++ mks 45 t2 = x2) := hx2
      have HX3 : Hid (x2 ++ mks 43 t3 = x3) := hx3
      have HI3 : Hid (x3 ++ bodyH a b E (cA + cAN) ((f :: g).drop (i + 1)) = RL) := (by show _ = _; rw [hRS]; exact hI3)
      have l3 : x3.length ≤ 549755813888 := by have := congrArg List.length hI3; rw [List.length_append] at this; omega
      have l2 : x2.length ≤ 549755813888 := by have := congrArg List.length hx3; rw [List.length_append] at this; omega
      have l1 : x1.length ≤ 549755813888 := by have := congrArg List.length hx2; rw [List.length_append] at this; omega
      have i1 : 0 ≤ (i : Int) := by omega
      have i2 : (i : Int) < (N : Int) + 1 := by omega
      obtain ⟨d0, d1, d2, d3⟩ := hgA
      have hcc := Cx.new wr ⟨cA, cAN, cB, cBN⟩
      have hL1 := hL.alloc (chO ⟨cA, cAN, cB, cBN⟩)
      have hf1 : Cx (wr.alloc (chO ⟨cA, cAN, cB, cBN⟩)) B11 f := hc11.low ((Below.refl _ wr).alloc (Nat.le_refl _) _)
      obtain ⟨y0, y1, y2, y3⟩ := hcc.cells
      have hW : wr.alloc (Obj.cells #[Value.int IntKind.i64 cA, Value.int IntKind.i64 cAN, Value.int IntKind.i64 cB, Value.int IntKind.i64 cBN] 49) = wr.alloc (chO ⟨cA, cAN, cB, cBN⟩) := rfl
      dsimp only at d0 d1 d2 d3 y0 y1 y2 y3
      clear HI HI1 HEi HRi k5 hdr hci hil ht1 ht2 ht3 hx1 hx2 hx3 hI3 hRS h1 h2 h3 hL hc11
      generalize hwr1 : wr.alloc (chO ⟨cA, cAN, cB, cBN⟩) = wr1 at *
      go_wp2_with fail
      generalize hBC : wr.heap.size = bC at *
      refine (hlay2_f W1 wr1 x 32 t1 _ hL1 (.inl rfl) s1 x1 HX1 (by omega)).mono ?_
      rintro e u1 ⟨rfl, hL2, hk1⟩
      have hcc1 := hk1 _ _ hcc
      have hf2 := hk1 _ _ hf1
      obtain ⟨z0, z1, z2, z3⟩ := hcc1.cells
      dsimp only at z0 z1 z2 z3
      clear y0 y1 y2 y3 hW d0 d1 d2 d3 hL1 hcc hf1 hk1
      go_wp2_with fail
      refine (hlay2_f W1 u1 x1 45 t2 _ hL2 (.inr (.inl rfl)) s2 x2 HX2 (by omega)).mono ?_
      rintro e u2 ⟨rfl, hL3, hk2⟩
      have hcc2 := hk2 _ _ hcc1
      have hf3 := hk2 _ _ hf2
      obtain ⟨y0, y1, y2, y3⟩ := hcc2.cells
      dsimp only at y0 y1 y2 y3
      clear z0 z1 z2 z3 hL2 hcc1 hf2 hk2
      go_wp2_with fail
      refine (hlay2_f W1 u2 x2 43 t3 _ hL3 (.inr (.inr rfl)) s3 x3 HX3 (by omega)).mono ?_
      rintro e u3 ⟨rfl, hL4, hk3⟩
      have hf4 := hk3 _ _ hf3
      clear y0 y1 y2 y3 hL3 hcc2 hf3 hk3
      go_wp2
      exact ⟨⟨i + 1, cA + cAN, cB + cBN, false, x3, by omega, rfl, by go_num, by omega, hL4, hf4, HEn, HRn, HI3⟩, by simp [intOf]; omega⟩
    · have hdr : (f :: g).drop i = [] := List.drop_of_length_le (by rw [List.length_cons, HNN.out]; omega)
      have hE2 : min (a.length : Int) (p + ctx) = E := (by have h := HEi.out; rw [hdr] at h; exact h)
      have hE1 : (if (a.length : Int) < p + ctx then (a.length : Int) else p + ctx) = E := by rw [← hE2]; split <;> omega
      have hRi := HRi.out.1
      rw [hdr, List.nil_append] at hRi
      have k6 := hRi.le
      have HI1 : Hid (x ++ mks 32 (cut a p (E - p)) = RL) := (by have h := HI.out; rw [hdr] at h; exact h)
      obtain ⟨v1o, v1c, r1, h1⟩ := run_cut_to a ao ac p E hpb.1 (by omega) (by omega) W1 hA1
      obtain ⟨t1, ht1⟩ : ∃ t, cut a p (E - p) = t := ⟨_, rfl⟩
      have s1 := h1 W1 hA1
      rw [ht1] at r1 s1 HI1
      have hend : decide ((i : Int) < (N : Int) + 1) = false := decide_eq_false (by omega)
      clear HI HEi HRi hdr hRi ht1 h1 hE2
      go_wp2_with fail
      refine (hlay2_f W1 wr x 32 t1 _ hL (.inl rfl) s1 RL HI1 (by omega)).mono ?_
      rintro e wz ⟨rfl, hL2, hk1⟩
      have hf2 := hk1 _ _ hc11
      obtain ⟨ov, an, bn, hL3, han, hbn⟩ := hL2
      have HAN : Hid (((pkL 43 RL).length : Int) = an) := han
      have HBN : Hid (((pkL 45 RL).length : Int) = bn) := hbn
      obtain ⟨nA, hnA⟩ : ∃ z, (if 0 < an then f.A - m + 1 else f.A - m) = z := ⟨_, rfl⟩
      obtain ⟨nB, hnB⟩ : ∃ z, (if 0 < bn then f.B - m + 1 else f.B - m) = z := ⟨_, rfl⟩
      have HNA : Hid ((if 0 < an then f.A - m + 1 else f.A - m) = nA) := hnA
      have HNB : Hid ((if 0 < bn then f.B - m + 1 else f.B - m) = nB) := hnB
      have HRv : Hid (R = ⟨nA, an, nB, bn, RL⟩) := (by
        show _ = _
        rw [HRR.out, ← hnA, ← hnB, ← han, ← hbn]
        unfold cntH
        simp only [Int.natCast_pos])
      have hw1 : IntKind.i64.wrap (f.A - m) = f.A - m := wrap_s (by omega) (by omega)
      have hw2 : IntKind.i64.wrap (f.B - m) = f.B - m := wrap_s (by omega) (by omega)
      clear hnA hnB han hbn hk1 hL hc11
      obtain ⟨oo, oc, hov⟩ := (holds_of hL3.own).form
      dsimp only at hov
      subst hov
      have hLD := hL3.drewN 1
      have hfD : Cx (wz.drewN 1) B11 f := hf2
      have hcD0 := hLD.box.cells.1
      have hfD0 := hLD.box.frozen 0
      have hL4 := hLD.setA nA
      have hf4 := hLD.ck 0 (.int .i64 nA) _ _ hfD
      have hcD2 := hL4.box.cells.2.2.1
      have hfD2 := hL4.box.frozen 2
      have hL5 := hL4.setB nB
      have hf5 := hL4.ck 2 (.int .i64 nB) _ _ hf4
      dsimp only at hcD0 hcD2 hL4 hL5
      have hSD : ∃ A B, La W1 ⟨A, an, B, bn, RL⟩ (.slice oo RL.length oc) (wz.drewN 1) ∧ Cx (wz.drewN 1) B11 f := ⟨0, 0, hLD, hfD⟩
      have hS1 : ∃ A B, La W1 ⟨A, an, B, bn, RL⟩ (.slice oo RL.length oc) ((wz.drewN 1).setCell ⟨W1.heap.size, 0, none⟩ (.int .i64 nA)) ∧ Cx ((wz.drewN 1).setCell ⟨W1.heap.size, 0, none⟩ (.int .i64 nA)) B11 f := ⟨nA, 0, hL4, hf4⟩
      have hS2 : ∃ A B, La W1 ⟨A, an, B, bn, RL⟩ (.slice oo RL.length oc) (((wz.drewN 1).setCell ⟨W1.heap.size, 0, none⟩ (.int .i64 nA)).setCell ⟨W1.heap.size, 2, none⟩ (.int .i64 nB)) ∧ Cx (((wz.drewN 1).setCell ⟨W1.heap.size, 0, none⟩ (.int .i64 nA)).setCell ⟨W1.heap.size, 2, none⟩ (.int .i64 nB)) B11 f := ⟨nA, nB, hL5, hf5⟩
      go_upto_region 15 with fail
      refine wp_region_noPanic ?_
      refine wp_region_held_drew (S := fun u => ∃ A B, La W1 ⟨A, an, B, bn, RL⟩ (.slice oo RL.length oc) u ∧ Cx u B11 f) (by kernel_rfl) hSD (fun hHeld => ?_)
      refine go_take 0 76 _ (.pointer (some ⟨B11, 0, none⟩)) rfl (by kernel_rfl) (by kernel_rfl) (by kernel_rfl) (by kernel_rfl) (fun _ _ _ h => h) (Or.inl ⟨by kernel_rfl, fun u hu => by kernel_rfl⟩) hHeld ?_
      simp only [Act.put, List.setIfInBounds_toArray, List.set_cons_zero, List.set_cons_succ]
      refine go_take 1 77 _ (.int .i64 f.A) rfl (by kernel_rfl) (by kernel_rfl) (by kernel_rfl) (by kernel_rfl) (fun _ _ _ h => h) (Or.inl ⟨by kernel_rfl, fun u hu => (by obtain ⟨_, _, _, hc⟩ := hu; exact load_int hc.cells.1 (.tmp 76) (by kernel_rfl) (by kernel_rfl))⟩) hHeld ?_
      simp only [Act.put, List.setIfInBounds_toArray, List.set_cons_zero, List.set_cons_succ]
      refine go_take 2 78 _ (.int .i64 m) rfl (by kernel_rfl) (by kernel_rfl) (by kernel_rfl) (by kernel_rfl) (fun _ _ _ h => h) (Or.inl ⟨by kernel_rfl, fun u hu => by kernel_rfl⟩) hHeld ?_
      simp only [Act.put, List.setIfInBounds_toArray, List.set_cons_zero, List.set_cons_succ]
      refine go_take 3 79 _ (.int .i64 (f.A - m)) rfl (by kernel_rfl) (by kernel_rfl) (by kernel_rfl) (by kernel_rfl) (fun _ _ _ h => h) (Or.inl ⟨by kernel_rfl, fun u hu => exec_subI hw1 (.tmp 77) (.tmp 78) (by kernel_rfl) (by kernel_rfl) (by kernel_rfl)⟩) hHeld ?_
      simp only [Act.put, List.setIfInBounds_toArray, List.set_cons_zero, List.set_cons_succ]
      refine go_take 4 80 _ (.pointer (some ⟨W1.heap.size, 1, none⟩)) rfl (by kernel_rfl) (by kernel_rfl) (by kernel_rfl) (by kernel_rfl) (fun _ _ _ h => h) (Or.inl ⟨by kernel_rfl, fun u hu => by kernel_rfl⟩) hHeld ?_
      simp only [Act.put, List.setIfInBounds_toArray, List.set_cons_zero, List.set_cons_succ]
      refine go_take 5 81 _ (.int .i64 an) rfl (by kernel_rfl) (by kernel_rfl) (by kernel_rfl) (by kernel_rfl) (fun _ _ _ h => h) (Or.inl ⟨by kernel_rfl, fun u hu => (by obtain ⟨_, _, hl, _⟩ := hu; exact load_int hl.box.cells.2.1 (.tmp 80) (by kernel_rfl) (by kernel_rfl))⟩) hHeld ?_
      simp only [Act.put, List.setIfInBounds_toArray, List.set_cons_zero, List.set_cons_succ]
      refine go_take 7 83 _ (.pointer (some ⟨B11, 2, none⟩)) rfl (by kernel_rfl) (by kernel_rfl) (by kernel_rfl) (by kernel_rfl) (fun _ _ _ h => h) (Or.inl ⟨by kernel_rfl, fun u hu => by kernel_rfl⟩) hHeld ?_
      simp only [Act.put, List.setIfInBounds_toArray, List.set_cons_zero, List.set_cons_succ]
      refine go_take 8 84 _ (.int .i64 f.B) rfl (by kernel_rfl) (by kernel_rfl) (by kernel_rfl) (by kernel_rfl) (fun _ _ _ h => h) (Or.inl ⟨by kernel_rfl, fun u hu => (by obtain ⟨_, _, _, hc⟩ := hu; exact load_int hc.cells.2.2.1 (.tmp 83) (by kernel_rfl) (by kernel_rfl))⟩) hHeld ?_
      simp only [Act.put, List.setIfInBounds_toArray, List.set_cons_zero, List.set_cons_succ]
      refine go_take 9 85 _ (.int .i64 m) rfl (by kernel_rfl) (by kernel_rfl) (by kernel_rfl) (by kernel_rfl) (fun _ _ _ h => h) (Or.inl ⟨by kernel_rfl, fun u hu => by kernel_rfl⟩) hHeld ?_
      simp only [Act.put, List.setIfInBounds_toArray, List.set_cons_zero, List.set_cons_succ]
      refine go_take 10 86 _ (.int .i64 (f.B - m)) rfl (by kernel_rfl) (by kernel_rfl) (by kernel_rfl) (by kernel_rfl) (fun _ _ _ h => h) (Or.inl ⟨by kernel_rfl, fun u hu => exec_subI hw2 (.tmp 84) (.tmp 85) (by kernel_rfl) (by kernel_rfl) (by kernel_rfl)⟩) hHeld ?_
      simp only [Act.put, List.setIfInBounds_toArray, List.set_cons_zero, List.set_cons_succ]
      refine go_take 11 87 _ (.pointer (some ⟨W1.heap.size, 3, none⟩)) rfl (by kernel_rfl) (by kernel_rfl) (by kernel_rfl) (by kernel_rfl) (fun _ _ _ h => h) (Or.inl ⟨by kernel_rfl, fun u hu => by kernel_rfl⟩) hHeld ?_
      simp only [Act.put, List.setIfInBounds_toArray, List.set_cons_zero, List.set_cons_succ]
      refine go_take 12 88 _ (.int .i64 bn) rfl (by kernel_rfl) (by kernel_rfl) (by kernel_rfl) (by kernel_rfl) (fun _ _ _ h => h) (Or.inl ⟨by kernel_rfl, fun u hu => (by obtain ⟨_, _, hl, _⟩ := hu; exact load_int hl.box.cells.2.2.2.1 (.tmp 87) (by kernel_rfl) (by kernel_rfl))⟩) hHeld ?_
      simp only [Act.put, List.setIfInBounds_toArray, List.set_cons_zero, List.set_cons_succ]
      refine go_callE 6 82 _ rfl (by kernel_rfl) (by kernel_rfl) (by kernel_rfl) 46 (.func 46) #[.tmp 79, .tmp 81] #[3, 3] (by kernel_rfl) #[] (by kernel_rfl) #[.int .i64 (f.A - m), .int .i64 an] (by kernel_rfl) (enters_of Tryz.func46 (by kernel_rfl) rfl) (fun v u => v = .int .i64 nA ∧ u = wz.drewN 1) ((hnumberOf_f (f.A - m) an _ (by omega) (by omega) nA HNA).mono (fun _ _ h => ⟨_, h.1, by rw [h.2]; exact hSD, rfl, h.2⟩)) ?_
      rintro v w5 hHeld ⟨rfl, rfl⟩
      simp only [Act.put, List.setIfInBounds_toArray, List.set_cons_zero, List.set_cons_succ]
      refine go_take 14 90 _ (.pointer (some ⟨W1.heap.size, 0, none⟩)) rfl (by kernel_rfl) (by kernel_rfl) (by kernel_rfl) (by kernel_rfl) (fun _ _ _ h => h) (Or.inl ⟨by kernel_rfl, fun u hu => by kernel_rfl⟩) hHeld ?_
      simp only [Act.put, List.setIfInBounds_toArray, List.set_cons_zero, List.set_cons_succ]
      refine go_callE 13 89 _ rfl (by kernel_rfl) (by kernel_rfl) (by kernel_rfl) 46 (.func 46) #[.tmp 86, .tmp 88] #[3, 3] (by kernel_rfl) #[] (by kernel_rfl) #[.int .i64 (f.B - m), .int .i64 bn] (by kernel_rfl) (enters_of Tryz.func46 (by kernel_rfl) rfl) (fun v u => v = .int .i64 nB ∧ u = wz.drewN 1) ((hnumberOf_f (f.B - m) bn _ (by omega) (by omega) nB HNB).mono (fun _ _ h => ⟨_, h.1, by rw [h.2]; exact hSD, rfl, h.2⟩)) ?_
      rintro v w6 hHeld ⟨rfl, rfl⟩
      simp only [Act.put, List.setIfInBounds_toArray, List.set_cons_zero, List.set_cons_succ]
      refine go_skip 15 _ rfl (by kernel_rfl) (by kernel_rfl) (by kernel_rfl) ((wz.drewN 1).setCell ⟨W1.heap.size, 0, none⟩ (.int .i64 nA)) (exec_storeI hfD0 hcD0 (.tmp 90) (.tmp 82) (by kernel_rfl) (by kernel_rfl) (by kernel_rfl)) (hS1) ?_
      refine go_take 16 91 _ (.pointer (some ⟨W1.heap.size, 2, none⟩)) rfl (by kernel_rfl) (by kernel_rfl) (by kernel_rfl) (by kernel_rfl) (fun _ _ _ h => h) (Or.inl ⟨by kernel_rfl, fun u hu => by kernel_rfl⟩) hS1 ?_
      simp only [Act.put, List.setIfInBounds_toArray, List.set_cons_zero, List.set_cons_succ]
      refine go_skip 17 _ rfl (by kernel_rfl) (by kernel_rfl) (by kernel_rfl) (((wz.drewN 1).setCell ⟨W1.heap.size, 0, none⟩ (.int .i64 nA)).setCell ⟨W1.heap.size, 2, none⟩ (.int .i64 nB)) (exec_storeI hfD2 hcD2 (.tmp 91) (.tmp 89) (by kernel_rfl) (by kernel_rfl) (by kernel_rfl)) (hS2) ?_
      refine wpAnyH_done (by kernel_rfl) ?_ _
      refine NoPanic.normal ?_
      generalize ((wz.drewN 1).setCell ⟨W1.heap.size, 0, none⟩ (.int .i64 nA)).setCell ⟨W1.heap.size, 2, none⟩ (.int .i64 nB) = W4 at *
      have hz4 := hz0.low hL5.low
      obtain ⟨t0, t1, t2, t3, t4⟩ := hL5.box.cells
      obtain ⟨z0, z1, z2, z3, z4⟩ := hz4.cells
      have zf := hz4.frozen
      have zf0 := zf 0
      have zf1 := zf 1
      have zf2 := zf 2
      have zf3 := zf 3
      have zf4 := zf 4
      dsimp only at t0 t1 t2 t3 t4 z0 z1 z2 z3 z4
      have hP := hz4.put5 (.int .i64 nA) (.int .i64 an) (.int .i64 nB) (.int .i64 bn) (.slice oo RL.length oc)
      have hlw : Below w.heap.size w W4 := hB0.trans (hL5.low.mono hB0.size)
      have hown5 := hL5.own
      clear zf
      go_wp2
      rw [HRv.out]
      refine bodyPost_ret (v := hkV ⟨nA, an, nB, bn, RL⟩ (.slice oo RL.length oc)) (results_cell_row rfl _ _ w.heap.size 52 #[.int .i64 nA, .int .i64 an, .int .i64 nB, .int .i64 bn, .slice oo RL.length oc] (0, 0) _ rfl hP Tryz.underlying52 rfl (by kernel_rfl)) rfl ⟨_, rfl, ?_, ?_⟩
      · have key : ∀ (u : World) (j : Nat) (z : Value), u.ownsRow w.heap.size 91 2 (.slice oo RL.length oc) RL.length (mkcells RL) → (∀ g, (Value.slice oo RL.length oc).ownBlock = some g → w.heap.size < g) → (u.setCell ⟨w.heap.size, j, none⟩ z).ownsRow w.heap.size 91 2 (.slice oo RL.length oc) RL.length (mkcells RL) := fun u j z ho hg => own_kept ho (grown_set u _ j z) (fun k hk e => by cases hk; have := hg _ e; omega)
        have hgg : ∀ g, (Value.slice oo RL.length oc).ownBlock = some g → w.heap.size < g := fun g hg => by have := owns_ge hown5 hg; have := HW1.out; omega
        have h0 : W4.ownsRow w.heap.size 91 2 (.slice oo RL.length oc) RL.length (mkcells RL) := own_base hown5 (by have := HW1.out; omega)
        exact key _ _ _ (key _ _ _ (key _ _ _ (key _ _ _ (key _ _ _ h0 hgg) hgg) hgg) hgg) hgg
      · exact ((((hlw.setCell (by simp) _).setCell (by simp) _).setCell (by simp) _).setCell (by simp) _).setCell (by simp) _
end Go.Proofs.YtncpkodfcifpkaaGreatDoor

/- The reference's Make of layer 11, walked. -/
set_option maxRecDepth 20000
namespace Go.Proofs.YtncpkodfcifpkaaGreatDoor
open Go.RowKit

theorem Hs.base {w W u : World} {ov : Value} {P : List (Hk × Value)} (h : Hs W ov P u) (hB : Below w.heap.size w W) : Hs w ov P u :=
  ⟨hB.trans (h.low.mono hB.size), own_base h.own hB.size, fun x hx => own_base (h.ins x hx) hB.size⟩
/-- a group of the row, read -/
theorem Gr.at {w W u : World} {oo : Option Addr} {n oc : Nat} {G : List (List Ch × Value)} (h : Gr w (.slice oo n oc) G W) (hB : Below W.heap.size W u) {i : Nat} (hi : i < G.length) {g : List Ch} {gv : Value} (hg : G[i] = (g, gv)) : ∃ q, oo = some ⟨q, 0, none⟩ ∧ u.cell? ⟨q, i, none⟩ = some gv ∧ HCh u gv g := by
  have hh := holds_of h.own
  obtain ⟨b, off, c', hv, hb, hc⟩ := Holds.at hh (by simp; omega)
  rcases h.own.2 with ⟨_, h0⟩ | ⟨q, cap, cur, e, _⟩
  · omega
  · cases e
    cases hv
    refine ⟨_, rfl, ?_, ?_⟩
    · have h1 := hc i (by simpa using hi)
      rw [Nat.zero_add] at h1
      refine hcell_keep hB ?_
      rw [h1]
      simp [hg]
    · have hin := h.ins (g, gv) (by rw [← hg]; exact List.getElem_mem hi)
      exact HCh.keep (holds_of hin) hB (Nat.le_refl _)

end Go.Proofs.YtncpkodfcifpkaaGreatDoor

/- The code's Make of layer 11, walked. -/
set_option maxRecDepth 20000
namespace Go.Proofs.YtncpkodfcifpkaaGreatDoor
open Go.RowKit

set_option maxRecDepth 10000 in
set_option maxHeartbeats 16000000 in
theorem hMake_f (l : List Ch) (a b : List (List UInt8)) (ctx : Int) (v va vb : Value) (w : World) (hv : HCh w v l) (ha : HS w va a) (hb : HS w vb b) (hl : l.length ≤ 1099511627776) (hal : a.length ≤ 137438953472) (hbl : b.length ≤ 137438953472) (z : Int) (HZ : Hid (grpE l a.length b.length ctx = z)) (R : List Hk) (HR : Hid (mkR l a b ctx = R)) : Calls Tryz.prog 10 #[v, va, vb, .int .i64 ctx] w fun e w' => ∃ v' P, e = .returned (.tuple #[v', .int .i64 z]) ∧ Hs w v' P w' ∧ P.map (·.1) = R := by
  obtain ⟨vo, lc, rfl⟩ := Holds.form hv
  obtain ⟨ao, ac, rfl⟩ := Holds.form ha
  obtain ⟨bo, bc, rfl⟩ := Holds.form hb
  obtain ⟨GR, hGR⟩ : ∃ GR, grpR l a.length b.length ctx = GR := ⟨_, rfl⟩
  have HGR : Hid (grpR l a.length b.length ctx = GR) := hGR
  have HR1 : Hid (GR.map (oneH a b ctx) = R) := (by show _ = _; rw [← HR.out, ← hGR]; rfl)
  clear hGR
  go_enter Tryz.func10, Tryz.ntmps10
  go_wp2_with fail
  refine (hGroup_f l a.length b.length ctx _ w hv hl (by omega) (by omega) z HZ GR HGR).mono ?_
  rintro e W ⟨gv0, G, rfl, hG, _, hGm⟩
  obtain ⟨go, gc, rfl⟩ := (holds_of hG.own).form
  have HGM : Hid (G.map (·.1) = GR) := hGm
  clear hGm HR
  by_cases hz : z = 0
  · subst hz
    have HE : Hid (grp ctx l = GR ∧ Script l a.length b.length ∧ 0 ≤ ctx ∧ ctx ≤ 100) := (by
      have h1 := HZ.out
      have h2 := HGR.out
      unfold grpR at h2
      rw [h1, if_pos rfl] at h2
      refine ⟨h2, ?_⟩
      unfold grpE at h1
      by_cases hs : Script l a.length b.length
      · refine ⟨hs, ?_⟩
        rw [chk_ok hs] at h1
        by_cases hx : ctx < 0 ∨ 100 < ctx
        · simp [hx] at h1
        · omega
      · rw [chk_no hs] at h1
        simp at h1)
    have hctx := HE.out.2.2
    have hGl : G.length ≤ 1099511627776 := (by
      have h1 := congrArg List.length HGM.out
      have h2 : (grp ctx l).length ≤ l.length := (by
        have key : ∀ l : List Ch, (grp ctx l).length ≤ l.length := by
          intro l
          induction l with
          | nil => simp [grp]
          | cons c l ih =>
            cases l with
            | nil => simp [grp, gcons]
            | cons d l =>
              obtain ⟨g, gs, p1, p2⟩ := grp_cons2 ctx c d l
              rw [p2]
              rw [p1] at ih
              split <;> simp at ih ⊢ <;> omega
        exact key l)
      rw [HE.out.1] at h2
      simp at h1
      omega)
    clear HZ HGR
    go_wp2
    go_loopw [12, 30] (fun ov iv wr => ∃ (i : Nat) (P : List (Hk × Value)), i ≤ G.length ∧ iv = .int .i64 (i : Int) ∧ (∃ oo oc, ov = .slice oo i oc) ∧ Hs W ov P wr ∧ Hid (P.length = i ∧ P.map (·.1) = (GR.take i).map (oneH a b ctx))) (fun _ iv _ => G.length - (intOf iv).toNat)
    case atStart => exact ⟨0, [], Nat.zero_le _, by go_num, ⟨_, _, rfl⟩, Hs.nil W, ⟨rfl, rfl⟩⟩
    case round =>
      obtain ⟨i, P, hi, rfl, ⟨oo, oc, rfl⟩, hS, HP⟩ := hrel
      by_cases hlt : i < G.length
      · obtain ⟨g, gv, hgi⟩ : ∃ g gv, G[i] = (g, gv) := ⟨_, _, rfl⟩
        obtain ⟨q, rfl, hcell, hch⟩ := hG.at hS.low hlt hgi
        have hGRl : GR.length = G.length := by rw [← HGM.out]; simp
        have hGRi : GR[i]'(by omega) = g := by
          have h1 : GR[i]? = some g := by rw [← HGM.out]; simp [hlt, hgi]
          exact (List.getElem?_eq_some_iff.1 h1).2
        have hsp : GR = GR.take i ++ g :: GR.drop (i + 1) := by
          rw [← hGRi, ← List.drop_eq_getElem_cons (by omega), List.take_append_drop]
        have hgne : g ≠ [] := grp_ne ctx l g (by rw [HE.out.1, ← hGRi]; exact List.getElem_mem _)
        obtain ⟨f, g', rfl⟩ : ∃ f g', g = f :: g' := by
          cases g with
          | nil => exact absurd rfl hgne
          | cons f g' => exact ⟨f, g', rfl⟩
        obtain ⟨hR1, hR2, hR3, hR4⟩ := script_at hctx.1 HE.out.2.1 (HE.out.1.trans hsp)
        have hnums := right_nums hR1
        have hgl : g'.length ≤ 1099511627776 := (by
          have h1 := congrArg List.length (grp_flatten ctx l)
          rw [HE.out.1, hsp] at h1
          simp only [List.flatten_append, List.flatten_cons, List.length_append, List.length_cons] at h1
          omega)
        obtain ⟨H, hH⟩ : ∃ H, oneH a b ctx (f :: g') = H := ⟨_, rfl⟩
        have HH : Hid (oneH a b ctx (f :: g') = H) := hH
        rw [hH] at hR4
        have hBw : Below w.heap.size w wr := hG.low.trans (hS.low.mono hG.low.size)
        have ha' := HS.keep ha hBw (Nat.le_refl _)
        have hb' := HS.keep hb hBw (Nat.le_refl _)
        obtain ⟨ho, hc, rfl⟩ := Holds.form hch
        have HP2 : ∀ y : Value, Hid ((P ++ [(H, y)]).length = i + 1 ∧ (P ++ [(H, y)]).map (·.1) = (GR.take (i + 1)).map (oneH a b ctx)) := fun y => (by
          refine ⟨by rw [List.length_append, HP.out.1]; rfl, ?_⟩
          rw [List.map_append, HP.out.2, List.take_succ_eq_append_getElem (by omega), List.map_append, hGRi]
          simp [hH])
        have i1 : 0 ≤ (i : Int) := by omega
        have i2 : (i : Int) < (G.length : Int) := by omega
        clear hsp hGRi hGRl hgne hgi hH
        go_wp2_with fail
        refine (haround_f g' (GR.drop (i + 1)).flatten f a b ctx _ _ _ wr hch ha' hb' (by omega) (by omega) hgl hctx hR1 hR3 (fun c hc => by have := (numB_iff c).1 (hnums c (by simp at hc ⊢; rcases hc with hc | hc; exact .inl hc; exact .inr (.inl hc))); omega) H HH (by omega)).mono ?_
        rintro e wr1 ⟨v1, rfl, hown1, hB1⟩
        obtain ⟨ro, rc, rfl⟩ := (holds_of hown1).form
        have hS1 : Hs W (.slice oo i oc) P wr1 := ⟨hS.low.trans (hB1.mono hS.low.size), owns_keep hS.own hB1, fun x hx => owns_keep (hS.ins x hx) hB1⟩
        have hown1' := own_base hown1 hS.low.size
        have hS5 := hS1.alloc (hkO H (.slice ro H.ls.length rc))
        have hrow5 := one_row wr1 H (.slice ro H.ls.length rc)
        have hown5 := hown1'.alloc (hkO H (.slice ro H.ls.length rc))
        have hl4 := hS1.low.size
        have hW5 : wr1.alloc (Obj.cells #[Value.int IntKind.i64 H.A, Value.int IntKind.i64 H.AN, Value.int IntKind.i64 H.B, Value.int IntKind.i64 H.BN, .slice ro H.ls.length rc] 52) = wr1.alloc (hkO H (.slice ro H.ls.length rc)) := rfl
        have HS5 : Hid ((wr1.alloc (hkO H (.slice ro H.ls.length rc))).heap.size = wr1.heap.size + 1) := (by show _ = _; simp)
        have hownP := hS5.own
        rw [HP.out.1] at hownP
        unfold hkV
        clear hB1 hown1 hR1 hnums hch hcell
        go_wp2_with (at_builtin; refine wpList_append_w _ (by kernel_rfl) (.tmp 34) (.tmp 40) 34 52 (.agg #[.int .i64 0, .int .i64 0, .int .i64 0, .int .i64 0, .slice none 0 0]) 5 56 rfl Tryz.underlying34 infoHk rfl (by decide) (by decide) W.heap.size _ _ _ rfl hownP _ 1 (hkC H (.slice ro H.ls.length rc)) rfl hrow5 rfl (hkC_one _) (by omega) (by have := HS5.out; omega) ?_)
        intro v6 W6 hown6 hg6 _
        have hS6 := hS5.more hown5 hg6 (ov' := v6) (by rw [HP.out.1]; exact hown6)
        obtain ⟨ro6, rc6, rfl⟩ := (holds_of hown6).form
        clear hg6 hown6 hownP hrow5
        go_wp2
        exact ⟨⟨i + 1, P ++ [(H, .slice ro H.ls.length rc)], by omega, by go_num, ⟨_, _, rfl⟩, hS6, HP2 _⟩, by simp [intOf]; omega⟩
      · have hend : decide ((i : Int) < (G.length : Int)) = false := decide_eq_false (by omega)
        have HF : Hid (P.map (·.1) = R) := (by
          have hGRl : GR.length = G.length := by rw [← HGM.out]; simp
          show _ = _
          rw [HP.out.2, List.take_of_length_le (by omega)]
          exact HR1.out)
        go_wp2
        go_ret2
        exact ⟨_, P, rfl, hS.base hG.low, HF.out⟩
  · have hz1 : (z != 0) = true := by simpa using hz
    have HRN : Hid (R = []) := (by
      show _ = _
      rw [← HR1.out, ← HGR.out]
      unfold grpR
      rw [HZ.out, if_neg hz]
      rfl)
    clear HZ HGR hz
    go_wp2
    go_ret2
    rw [HRN.out]
    exact ⟨_, [], rfl, ⟨hG.low, hnil_row _ _ _ _, fun _ h => by cases h⟩, rfl⟩
end Go.Proofs.YtncpkodfcifpkaaGreatDoor

/- Scripts are made: between, Make, walked. -/
set_option maxRecDepth 20000
namespace Go.Proofs.YtncpkodfcifpkaaGreatDoor
open Go.RowKit

theorem ret_tuple {a b : Value} (h : a = b) : Ending.returned a = .returned b := by rw [h]
/-- numbers of a run that are small enough for sums -/
def sm (r : Rn) : Prop := 0 ≤ r.a ∧ r.a ≤ 4294967296 ∧ 0 ≤ r.b ∧ r.b ≤ 4294967296 ∧ 0 ≤ r.n ∧ r.n ≤ 4294967296
theorem owns_apart {w w' : World} {base base' : Nat} {e e' : TypeId} {s s' : Nat} {v v' : Value} {n n' : Nat} {xs xs' : List Value} (h : w.ownsRow base e s v n xs) (h' : w.ownsRow base' e' s' v' n' xs') (hne : e ≠ e') (h0 : 0 < n) (hg : w.grownBy w' v'.ownBlock) : w'.ownsRow base e s v n xs := by
  refine h.kept hg (.inr ?_)
  rcases h.2 with ⟨_, h1⟩ | ⟨g, cap, cur, rfl, _, hc, _⟩
  · omega
  · rcases h'.2 with ⟨rfl, _⟩ | ⟨g', cap', cur', rfl, _, hc', _⟩
    · simp [Value.ownBlock]
    · intro e1
      simp only [Value.ownBlock, Option.some.injEq] at e1
      subst e1
      rw [hc] at hc'
      cases hc'
      exact hne rfl

theorem new_holds_at (W : World) (g : Nat) (hg : W.heap.size = g) (cs : Array Value) (e : TypeId) (k c : Nat) (hkc : k ≤ c) : Holds (W.alloc (.cells cs e)) (.slice (some ⟨g, 0, none⟩) k c) k cs.toList := by
  subst hg
  exact new_holds W cs e k c hkc

set_option maxRecDepth 10000 in
set_option maxHeartbeats 4000000 in
theorem between_f (rs RS : List Rn) (L : List Ch) (n m : Int) (v : Value) (base : Nat) (w : World) (hbase : base ≤ w.heap.size) (hv : w.ownsRow base 188 3 v rs.length (rncells rs)) (hlen : rs.length ≤ 1099511627776) (hRS : Hid (rs ++ [⟨n, m, 0⟩] = RS)) (hL : Hid (betw 0 0 RS = L)) (hs : Hid (∀ r ∈ RS, sm r)) (hN : Hid (∀ c ∈ L, numB c = true)) :
    Calls Tryz.prog 108 #[v, .int .i64 n, .int .i64 m] w fun e w' => ∃ v', e = .returned (.tuple #[v', .int .i64 0]) ∧ HCh w' v' L ∧ Below base w w' := by
  obtain ⟨ao, ca, rfl⟩ := (holds_of hv).form
  go_enter Tryz.func108, Tryz.ntmps108
  go_wp2_with (at_builtin; refine wpList_append_h _ (by kernel_rfl) (.tmp 15) (.tmp 19) 186 188 (.agg #[.int .i64 0, .int .i64 0, .int .i64 0]) 3 24 rfl Tryz.underlying186 infoRn rfl (by decide) (by decide) base _ _ _ rfl (hv.alloc _) _ 1 (rncells [⟨n, m, 0⟩]) rfl (new_holds _ _ _ _ _ (by decide)) rfl (rncells_one _) (by omega) (by simp; omega) ?_)
  intro v1 w1 hown1 hgrow1
  have hB1 : Below base w w1 := ((Below.refl base w).alloc hbase _).grown hgrow1 (by simp; omega) (fun _ hj => owns_ge hv hj)
  have hsz1 := hB1.size
  rw [← rncells_append, hRS.out] at hown1
  have hRl : RS.length = rs.length + 1 := by rw [← hRS.out]; simp
  obtain ⟨N, hNe⟩ : ∃ N, rs.length + 1 = N := ⟨_, rfl⟩
  rw [hNe] at hown1 hRl
  have hN0 : 0 < N := by omega
  have hNl : N ≤ 1099511627777 := by omega
  obtain ⟨g1, cap1, rfl⟩ : ∃ g cap, v1 = .slice (some ⟨g, 0, none⟩) N cap := by rw [← hNe] at hown1 ⊢; exact ownsRow_succ hown1
  clear hgrow1 hNe hv
  go_wp2
  go_loopw [8, 9, 10, 22] (fun lv av bv iv wr => ∃ (k : Nat) (a b : Int) (X : List Ch), k ≤ N ∧ (∃ oo oc, lv = .slice oo X.length oc) ∧ av = .int .i64 a ∧ bv = .int .i64 b ∧ iv = .int .i64 k ∧ 0 ≤ a ∧ a ≤ 8589934592 ∧ 0 ≤ b ∧ b ≤ 8589934592 ∧ Below base w wr ∧ wr.ownsRow base 49 4 lv X.length (chcells X) ∧ X.length ≤ k ∧ wr.ownsRow base 188 3 (.slice (some ⟨g1, 0, none⟩) N cap1) N (rncells RS) ∧ Hid (X ++ betw a b (RS.drop k) = L)) (fun _ _ _ iv _ => N - (intOf iv).toNat)
  case atStart => exact ⟨0, 0, 0, [], Nat.zero_le _, ⟨_, _, rfl⟩, rfl, rfl, rfl, by omega, by omega, by omega, by omega, hB1, World.ownsRow_nil _ _ _ _, Nat.zero_le _, hown1, hL⟩
  case round =>
    obtain ⟨k, a, b, X, hk, ⟨oo, oc, rfl⟩, rfl, rfl, rfl, ha0, ha1, hb0, hb1, hB, hO, hX, hV, hR⟩ := hrel
    have hsz := hB.size
    by_cases hlt : k < N
    · have hV' : HRn wr (.slice (some ⟨g1, 0, none⟩) N cap1) RS := by have := holds_of hV; rw [← hRl] at this ⊢; exact this
      obtain ⟨bk, off, hbe, hbk, hc⟩ := HRn.at hV' (by omega)
      cases hbe
      obtain ⟨c0, c1, c2⟩ := hc k (by omega)
      have hR' := hR.out
      rw [List.drop_eq_getElem_cons (by omega)] at hR'
      obtain ⟨r, hrd⟩ : ∃ r, RS[k] = r := ⟨_, rfl⟩
      have hsm := hs.out r (by rw [← hrd]; exact List.getElem_mem _)
      rw [hrd] at hR' c0 c1 c2
      clear hc hrd hR hV'
      have HR : Hid (X ++ betw a b (r :: RS.drop (k + 1)) = L) := hR'
      clear hR'
      obtain ⟨ra, rb, rn⟩ := r
      obtain ⟨s1, s2, s3, s4, s5, s6⟩ := hsm
      dsimp only at c0 c1 c2 s1 s2 s3 s4 s5 s6
      rw [Nat.zero_add] at c0 c1 c2
      have i1 : 0 ≤ (k : Int) := by omega
      have i2 : (k : Int) < (N : Int) := by omega
      by_cases hea : a < ra
      · go_wp2_with (at_builtin; refine wpList_append_h _ (by kernel_rfl) (.tmp 36) (.tmp 48) 25 49 (.agg #[.int .i64 0, .int .i64 0, .int .i64 0, .int .i64 0]) 4 32 rfl Tryz.underlying25 infoCh rfl (by decide) (by decide) base _ _ _ rfl ((hO.alloc _).alloc _) _ 1 (chcells [⟨a, ra - a, b, rb - b⟩]) rfl (new_holds_at _ _ (by simp) _ _ _ _ (by decide)) rfl (chcells_one _) (by omega) (by simp; omega) ?_)
        intro v2 w2 hown2 hgrow2
        have hB2 : Below base w w2 := ((hB.alloc (by omega) _).alloc (by simp; omega) _).grown hgrow2 (by simp; omega) (fun _ hj => owns_ge hO hj)
        have hsz2 := hB2.size
        have hV2 := owns_apart ((hV.alloc _).alloc _) ((hO.alloc _).alloc _) (by decide) hN0 hgrow2
        have hbx : w2.heap[wr.heap.size]? = some (Obj.cells #[Value.int IntKind.i64 ra, Value.int IntKind.i64 rb, Value.int IntKind.i64 rn] 188 (0, 0)) := by
          rw [hgrow2.block wr.heap.size (by simp; omega) (fun e => ?_)]
          · exact (Below.heap_alloc _ _ _ (by simp)).trans (_root_.Go.heap_alloc_new wr _)
          · have h1 := hO.2
            rcases h1 with ⟨h1, _⟩ | ⟨g, cap, cur, h1, _, h3, _⟩
            · rw [h1] at e; simp [Value.ownBlock] at e
            · rw [h1] at e
              simp only [Value.ownBlock, Option.some.injEq] at e
              have := (Array.getElem?_eq_some_iff.1 h3).1
              omega
        have d0 : w2.cell? ⟨wr.heap.size, 0, none⟩ = some (.int .i64 ra) := by rw [Lib.cell_of_heap hbx]; rfl
        have d1 : w2.cell? ⟨wr.heap.size, 1, none⟩ = some (.int .i64 rb) := by rw [Lib.cell_of_heap hbx]; rfl
        have d2 : w2.cell? ⟨wr.heap.size, 2, none⟩ = some (.int .i64 rn) := by rw [Lib.cell_of_heap hbx]; rfl
        rw [← chcells_append] at hown2
        obtain ⟨oo2, oc2, rfl⟩ := (holds_of hown2).form
        clear hbx hgrow2 c0 c1 c2
        go_wp2_with fail
        go_quiet (fail)
        go_wp2
        go_roundw
        case rel => exact ⟨k + 1, ra + rn, rb + rn, X ++ [⟨a, ra - a, b, rb - b⟩], by omega, ⟨_, _, by rw [List.length_append]; rfl⟩, by go_num, by go_num, by go_num, by omega, by omega, by omega, by omega, Below.dN hB2 _, by rw [List.length_append]; exact hown2, by simp; omega, hV2, (by
            have h := HR.out
            rw [betw] at h
            rw [if_pos (by dsimp only; omega)] at h
            show _ = _
            rw [← h]
            simp)⟩
        case measure => simp [intOf]; omega
      by_cases heb : b < rb
      · go_wp2_with (at_builtin; refine wpList_append_h _ (by kernel_rfl) (.tmp 36) (.tmp 48) 25 49 (.agg #[.int .i64 0, .int .i64 0, .int .i64 0, .int .i64 0]) 4 32 rfl Tryz.underlying25 infoCh rfl (by decide) (by decide) base _ _ _ rfl ((hO.alloc _).alloc _) _ 1 (chcells [⟨a, ra - a, b, rb - b⟩]) rfl (new_holds_at _ _ (by simp) _ _ _ _ (by decide)) rfl (chcells_one _) (by omega) (by simp; omega) ?_)
        intro v2 w2 hown2 hgrow2
        have hB2 : Below base w w2 := ((hB.alloc (by omega) _).alloc (by simp; omega) _).grown hgrow2 (by simp; omega) (fun _ hj => owns_ge hO hj)
        have hsz2 := hB2.size
        have hV2 := owns_apart ((hV.alloc _).alloc _) ((hO.alloc _).alloc _) (by decide) hN0 hgrow2
        have hbx : w2.heap[wr.heap.size]? = some (Obj.cells #[Value.int IntKind.i64 ra, Value.int IntKind.i64 rb, Value.int IntKind.i64 rn] 188 (0, 0)) := by
          rw [hgrow2.block wr.heap.size (by simp; omega) (fun e => ?_)]
          · exact (Below.heap_alloc _ _ _ (by simp)).trans (_root_.Go.heap_alloc_new wr _)
          · have h1 := hO.2
            rcases h1 with ⟨h1, _⟩ | ⟨g, cap, cur, h1, _, h3, _⟩
            · rw [h1] at e; simp [Value.ownBlock] at e
            · rw [h1] at e
              simp only [Value.ownBlock, Option.some.injEq] at e
              have := (Array.getElem?_eq_some_iff.1 h3).1
              omega
        have d0 : w2.cell? ⟨wr.heap.size, 0, none⟩ = some (.int .i64 ra) := by rw [Lib.cell_of_heap hbx]; rfl
        have d1 : w2.cell? ⟨wr.heap.size, 1, none⟩ = some (.int .i64 rb) := by rw [Lib.cell_of_heap hbx]; rfl
        have d2 : w2.cell? ⟨wr.heap.size, 2, none⟩ = some (.int .i64 rn) := by rw [Lib.cell_of_heap hbx]; rfl
        rw [← chcells_append] at hown2
        obtain ⟨oo2, oc2, rfl⟩ := (holds_of hown2).form
        clear hbx hgrow2 c0 c1 c2
        go_wp2_with fail
        go_quiet (fail)
        go_wp2
        go_roundw
        case rel => exact ⟨k + 1, ra + rn, rb + rn, X ++ [⟨a, ra - a, b, rb - b⟩], by omega, ⟨_, _, by rw [List.length_append]; rfl⟩, by go_num, by go_num, by go_num, by omega, by omega, by omega, by omega, Below.dN hB2 _, by rw [List.length_append]; exact hown2, by simp; omega, hV2, (by
            have h := HR.out
            rw [betw] at h
            rw [if_pos (by dsimp only; omega)] at h
            show _ = _
            rw [← h]
            simp)⟩
        case measure => simp [intOf]; omega
      · go_wp2_with fail
        go_quiet (fail)
        go_wp2
        go_roundw
        case rel => exact ⟨k + 1, ra + rn, rb + rn, X, by omega, ⟨_, _, rfl⟩, by go_num, by go_num, by go_num, by omega, by omega, by omega, by omega, Below.dN (hB.alloc (by omega) _) _, hO.alloc _, by omega, hV.alloc _, (by
            have h := HR.out
            rw [betw] at h
            rw [if_neg (by dsimp only; omega)] at h
            exact h)⟩
        case measure => simp [intOf]; omega
    · have hR' := hR.out
      rw [List.drop_of_length_le (by omega), betw, List.append_nil] at hR'
      subst hR'
      clear hR
      go_wp2
      go_loopw [63] (fun iv wr2 => ∃ k : Nat, k ≤ X.length ∧ iv = .int .i64 k ∧ Below base w wr2 ∧ HCh wr2 (.slice oo X.length oc) X) (fun iv _ => X.length - (intOf iv).toNat)
      case atStart => exact ⟨0, Nat.zero_le _, rfl, hB, holds_of hO⟩
      case round =>
        obtain ⟨j, hj, rfl, hBj, hXj⟩ := hrel
        have hszj := hBj.size
        by_cases hjl : j < X.length
        · obtain ⟨bk, off, rfl, hbk, hc⟩ := HCh.at hXj (by omega)
          obtain ⟨c0, c1, c2, c3⟩ := hc j hjl
          obtain ⟨c, hcd⟩ : ∃ c, X[j] = c := ⟨_, rfl⟩
          have hnc := hN.out c (by rw [← hcd]; exact List.getElem_mem _)
          rw [hcd] at c0 c1 c2 c3
          clear hc hcd
          obtain ⟨A, AN, B, BN⟩ := c
          dsimp only at c0 c1 c2 c3
          have HQ : Hid (numB ⟨A, AN, B, BN⟩ = true) := hnc
          clear hnc
          have i1 : 0 ≤ (j : Int) := by omega
          have i2 : (j : Int) < (X.length : Int) := by omega
          go_wp2_with fail
          refine (numbered_any ⟨A, AN, B, BN⟩ _).mono ?_
          rintro e w3 ⟨rfl, hB3⟩
          rw [HQ.out]
          have hB4 := ((Below.refl wr.heap.size wr).alloc (Nat.le_refl _) (Obj.cells #[Value.int IntKind.i64 A, Value.int IntKind.i64 AN, Value.int IntKind.i64 B, Value.int IntKind.i64 BN] 49)).trans (hB3.mono (by simp))
          clear c0 c1 c2 c3
          go_wp2
          go_roundw
          case rel => exact ⟨j + 1, by omega, by go_num, hBj.trans (hB4.mono (by omega)), HCh.keep hXj hB4 (Nat.le_refl _)⟩
          case measure => simp [intOf]; omega
        · go_wp2
          go_ret2
          exact ⟨_, rfl, hXj, hBj⟩

theorem Right.num {f : Bool} {a b n m : Int} {l : List Ch} (h : Right f a b n m l) : ∀ c ∈ l, numB c = true := by
  induction l generalizing f a b with
  | nil => simp
  | cons c l ih =>
    intro d hd
    rw [List.mem_cons] at hd
    rcases hd with rfl | hd
    · exact h.1.1
    · exact ih h.2 d hd
theorem Vk.lt {nx m : Int} {K : List Int} (h : Vk nx m K) : ∀ z ∈ K, z = -1 ∨ z < m := by
  induction K generalizing nx with
  | nil => simp
  | cons y t ih =>
    intro z hz
    rw [List.mem_cons] at hz
    rcases h with ⟨rfl, h⟩ | ⟨hy, h1, h2, h3⟩
    · rcases hz with rfl | hz
      · exact .inl rfl
      · exact ih h z hz
    · rcases hz with rfl | hz
      · exact .inr h2
      · exact ih h3 z hz
/-- the script that a list of what is kept makes -/
def mkL (K : List Int) (m : Int) : List Ch := betw 0 0 (keptR 0 K ++ [⟨K.length, m, 0⟩])
theorem mk_script {K : List Int} {m : Int} (h : Vk 0 m K) (h0 : 0 ≤ m) (hm : m ≤ 2147483647) (hl : K.length ≤ 1048576) : Script (mkL K m) K.length m ∧ U 0 0 K.length m (mkL K m) = keptR 0 K := by
  have hf := h.fit h0 (i := 0)
  rw [Int.zero_add] at hf
  have := fit_right hf (Int.le_refl _) (Int.le_refl _) (by omega) hm
  exact ⟨⟨by omega, h0, this.1⟩, this.2⟩
theorem kept_sm {K : List Int} {m : Int} (h : Vk 0 m K) (h0 : 0 ≤ m) (hm : m ≤ 2147483647) (hl : K.length ≤ 1048576) : ∀ r ∈ keptR 0 K ++ [⟨K.length, m, 0⟩], sm r := by
  intro r hr
  rw [List.mem_append, List.mem_singleton] at hr
  rcases hr with hr | rfl
  · rw [mem_keptR] at hr
    obtain ⟨h1, h2, h3, h4⟩ := hr
    have hlt := (List.getElem?_eq_some_iff.1 h3).1
    have hz := List.mem_of_getElem? h3
    have := h.each (Int.le_refl _) _ hz
    have := h.lt _ hz
    unfold sm
    omega
  · unfold sm
    dsimp only
    omega
theorem kept_len (i : Int) (K : List Int) : (keptR i K).length ≤ K.length := by
  induction K generalizing i with
  | nil => simp [keptR]
  | cons z t ih =>
    have := ih (i + 1)
    rw [keptR]
    split <;> simp <;> omega

set_option maxRecDepth 10000 in
set_option maxHeartbeats 4000000 in
theorem Make_f (K : List Int) (m : Int) (L : List Ch) (v : Value) (w : World) (hK : HI w v K) (hlen : K.length ≤ 1048576) (hV : Hid (Vk 0 m K)) (hm0 : 0 ≤ m) (hm : m ≤ 2147483647) (hL : Hid (mkL K m = L)) :
    Calls Tryz.prog 83 #[v, .int .i64 m] w fun e w' => ∃ v', e = .returned (.tuple #[v', .int .i64 0]) ∧ HCh w' v' L ∧ Below w.heap.size w w' := by
  obtain ⟨ao, ca, rfl⟩ := Holds.form hK
  go_enter Tryz.func83, Tryz.ntmps83
  go_wp2
  go_loopw [6, 7, 14] (fun kv nv iv wr => ∃ (k : Nat) (nx : Int) (X : List Rn), k ≤ K.length ∧ (∃ oo oc, kv = .slice oo X.length oc) ∧ nv = .int .i64 nx ∧ iv = .int .i64 k ∧ 0 ≤ nx ∧ nx ≤ m ∧ Below w.heap.size w wr ∧ wr.ownsRow w.heap.size 188 3 kv X.length (rncells X) ∧ X.length ≤ k ∧ Hid (Vk nx m (K.drop k) ∧ X ++ keptR k (K.drop k) = keptR 0 K)) (fun _ _ iv _ => K.length - (intOf iv).toNat)
  case atStart => exact ⟨0, 0, [], Nat.zero_le _, ⟨_, _, rfl⟩, rfl, rfl, by omega, by omega, Below.refl _ w, World.ownsRow_nil _ _ _ _, Nat.zero_le _, (⟨hV.out, rfl⟩ : _ ∧ _)⟩
  case round =>
    obtain ⟨k, nx, X, hk, ⟨oo, oc, rfl⟩, rfl, rfl, hn0, hnm, hB, hO, hX, hR⟩ := hrel
    have hsz := hB.size
    by_cases hlt : k < K.length
    · obtain ⟨bk, off, rfl, hbk, hc⟩ := HI.at (HI.keep hK hB (Nat.le_refl _)) (by omega)
      have c0 := hc k hlt
      have hR' := hR.out
      rw [List.drop_eq_getElem_cons hlt] at hR'
      obtain ⟨z, hzd⟩ : ∃ z, K[k] = z := ⟨_, rfl⟩
      rw [hzd] at hR' c0
      clear hc hzd hR
      have i1 : 0 ≤ (k : Int) := by omega
      have i2 : (k : Int) < (K.length : Int) := by omega
      by_cases hz : z = -1
      · subst hz
        have HR : Hid (Vk nx m (K.drop (k + 1)) ∧ X ++ keptR (k + 1 : Nat) (K.drop (k + 1)) = keptR 0 K) := (by
          obtain ⟨h1, h2⟩ := hR'
          rw [keptR, if_pos rfl] at h2
          rcases h1 with ⟨_, h1⟩ | ⟨h1, _⟩
          · exact ⟨h1, h2⟩
          · exact absurd rfl h1)
        clear hR'
        go_wp2
        go_roundw
        case rel => exact ⟨k + 1, nx, X, by omega, ⟨_, _, rfl⟩, rfl, by go_num, hn0, hnm, hB, hO, by omega, HR⟩
        case measure => simp [intOf]; omega
      · have hq : nx ≤ z ∧ z < m ∧ Vk (z + 1) m (K.drop (k + 1)) := by
          rcases hR'.1 with ⟨h1, _⟩ | ⟨_, h1⟩
          · exact absurd h1 hz
          · exact h1
        obtain ⟨q1, q2, q3⟩ := hq
        have HR : Hid (Vk (z + 1) m (K.drop (k + 1)) ∧ X ++ [⟨k, z, 1⟩] ++ keptR (k + 1 : Nat) (K.drop (k + 1)) = keptR 0 K) := (by
          obtain ⟨_, h2⟩ := hR'
          rw [keptR, if_neg hz] at h2
          refine ⟨q3, ?_⟩
          rw [← h2, List.append_assoc]
          rfl)
        clear hR' q3
        have hz2 : decide (z = -1) = false := decide_eq_false hz
        go_wp2_with (at_builtin; refine wpList_append_h _ (by kernel_rfl) (.tmp 29) (.tmp 33) 186 188 (.agg #[.int .i64 0, .int .i64 0, .int .i64 0]) 3 24 rfl Tryz.underlying186 infoRn rfl (by decide) (by decide) w.heap.size _ _ _ rfl (hO.alloc _) _ 1 (rncells [⟨k, z, 1⟩]) rfl (new_holds _ _ _ _ _ (by decide)) rfl (rncells_one _) (by omega) (by simp; omega) ?_)
        intro v2 w2 hown2 hgrow2
        have hB2 : Below w.heap.size w w2 := (hB.alloc (by omega) _).grown hgrow2 (by simp; omega) (fun _ hj => owns_ge hO hj)
        rw [← rncells_append] at hown2
        obtain ⟨oo2, oc2, rfl⟩ := (holds_of hown2).form
        clear hgrow2 c0
        go_wp2
        go_roundw
        case rel => exact ⟨k + 1, z + 1, X ++ [⟨k, z, 1⟩], by omega, ⟨_, _, by rw [List.length_append]; rfl⟩, by go_num, by go_num, by omega, by omega, hB2, by rw [List.length_append]; exact hown2, by simp; omega, HR⟩
        case measure => simp [intOf]; omega
    · have hR' := hR.out
      rw [List.drop_of_length_le (by omega), keptR, List.append_nil] at hR'
      have hXe := hR'.2
      subst hXe
      clear hR hR'
      go_wp2_with fail
      refine (between_f _ _ L K.length m _ w.heap.size wr (by omega) hO (by have := kept_len 0 K; omega) rfl hL (kept_sm hV.out hm0 hm hlen) (by
        have h := (mk_script hV.out hm0 hm hlen).1.2.2.num
        rw [hL.out] at h
        exact h)).mono ?_
      rintro e w2 ⟨v', rfl, hv', hB2⟩
      go_wp2
      go_ret2
      exact ⟨_, rfl, hv', hB.trans hB2⟩
end Go.Proofs.YtncpkodfcifpkaaGreatDoor

/- The laws' own small functions of layer 11, walked: small, changed; the two texts of the chapter's first case. -/
set_option maxRecDepth 20000
namespace Go.Proofs.YtncpkodfcifpkaaGreatDoor
open Go.RowKit

theorem cntC_le (l : List Mk) : cntC l ≤ l.length := by
  induction l with
  | nil => simp [cntC]
  | cons m l ih => simp only [cntC, List.length_cons]; split <;> omega

end Go.Proofs.YtncpkodfcifpkaaGreatDoor

/- Rising rows of pairs: how long the longest one is that begins with each member, heads of rows, what is picked: plain. -/
set_option maxRecDepth 20000
namespace Go.Proofs.YtncpkodfcifpkaaGreatDoor

/-- a place of each text -/
structure Pr where
  X : Int
  Y : Int
/-- p may stand behind q in a rising row -/
abbrev ab (p q : Pr) : Prop := q.X < p.X ∧ q.Y < p.Y
theorem ab_trans {p q r : Pr} (h : ab p q) (h' : ab q r) : ab p r := ⟨Int.lt_trans h'.1 h.1, Int.lt_trans h'.2 h.2⟩
/-- the greatest length among those that may stand behind p -/
def mxl (p : Pr) : List Pr → List Nat → Nat
  | t :: ts, n :: ns => if ab t p then max n (mxl p ts ns) else mxl p ts ns
  | _, _ => 0
/-- how long the longest rising row is that begins with each member -/
def rl : List Pr → List Nat
  | [] => []
  | p :: t => (mxl p t (rl t) + 1) :: rl t
theorem rl_length (l : List Pr) : (rl l).length = l.length := by
  induction l with
  | nil => rfl
  | cons p t ih => simp [rl, ih]
theorem mxl_ge (p : Pr) (t : List Pr) (ns : List Nat) (k : Nat) (q : Pr) (n : Nat) (hq : t[k]? = some q) (hn : ns[k]? = some n) (ha : ab q p) : n ≤ mxl p t ns := by
  induction t generalizing ns k with
  | nil => simp at hq
  | cons a t ih =>
    cases ns with
    | nil => simp at hn
    | cons b ns =>
      rw [mxl]
      cases k with
      | zero =>
        simp at hq hn
        subst hq hn
        rw [if_pos ha]
        omega
      | succ k =>
        have := ih ns k (by simpa using hq) (by simpa using hn)
        split <;> omega
theorem mxl_at (p : Pr) (t : List Pr) (ns : List Nat) (h : 0 < mxl p t ns) : ∃ (k : Nat) (q : Pr), t[k]? = some q ∧ ns[k]? = some (mxl p t ns) ∧ ab q p := by
  induction t generalizing ns with
  | nil => simp [mxl] at h
  | cons a t ih =>
    cases ns with
    | nil => simp [mxl] at h
    | cons b ns =>
      rw [mxl] at h ⊢
      by_cases ha : ab a p
      · rw [if_pos ha] at h ⊢
        by_cases hb : mxl p t ns ≤ b
        · exact ⟨0, a, rfl, by simp; omega, ha⟩
        · obtain ⟨k, q, h1, h2, h3⟩ := ih ns (by omega)
          exact ⟨k + 1, q, by simpa using h1, by simp [h2]; omega, h3⟩
      · rw [if_neg ha] at h ⊢
        obtain ⟨k, q, h1, h2, h3⟩ := ih ns h
        exact ⟨k + 1, q, by simpa using h1, by simpa using h2, h3⟩
/-- a row of n + 1 members may stand behind p -/
def Hd (t : List Pr) (n : Nat) (p : Pr) : Prop := ∃ (k : Nat) (q : Pr), t[k]? = some q ∧ (rl t)[k]? = some (n + 1) ∧ ab q p
theorem Hd.down {t : List Pr} {n : Nat} {p : Pr} (h : Hd t (n + 1) p) : Hd t n p := by
  obtain ⟨k, q, h1, h2, h3⟩ := h
  induction t generalizing k with
  | nil => simp at h1
  | cons a t ih =>
    cases k with
    | zero =>
      simp [rl] at h1 h2
      subst h1
      obtain ⟨j, r, g1, g2, g3⟩ := mxl_at a t (rl t) (by omega)
      exact ⟨j + 1, r, by simpa using g1, by simp [rl, g2, h2], ab_trans g3 h3⟩
    | succ k =>
      obtain ⟨j, r, g1, g2, g3⟩ := ih k (by simpa using h1) (by simpa [rl] using h2)
      exact ⟨j + 1, r, by simpa using g1, by simpa [rl] using g2, g3⟩
theorem Hd.downs {t : List Pr} {n m : Nat} {p : Pr} (h : Hd t n p) (hm : m ≤ n) : Hd t m p := by
  induction n with
  | zero => obtain rfl : m = 0 := by omega
            exact h
  | succ n ih =>
    by_cases e : m = n + 1
    · subst e; exact h
    · exact ih h.down (by omega)
/-- X falls, Y rises, each of which may stay -/
def Stair (h : List Pr) : Prop := h.Pairwise fun a b => b.X ≤ a.X ∧ a.Y ≤ b.Y
/-- the heads of rows of each length, for what stands behind -/
structure Hds (t : List Pr) (H : List (List Pr)) : Prop where
  st : ∀ h ∈ H, Stair h
  eq : ∀ n h, H[n]? = some h → ∀ p, (∃ a ∈ h, ab a p) ↔ Hd t n p
  top : ∀ n ∈ rl t, n ≤ H.length
theorem Hds.start : Hds [] [] := ⟨by simp, by simp, by simp [rl]⟩
theorem Hds.beyond {t : List Pr} {H : List (List Pr)} (h : Hds t H) {n : Nat} (hn : H.length ≤ n) (p : Pr) : ¬ Hd t n p := by
  rintro ⟨k, q, h1, h2, h3⟩
  have := h.top (n + 1) (List.mem_of_getElem? h2)
  omega
/-- the first that is not behind p: so long is the longest row behind p -/
theorem mxl_of {t : List Pr} {H : List (List Pr)} (_h : Hds t H) {p : Pr} {n : Nat} (h1 : ∀ m, m < n → Hd t m p) (h2 : ¬ Hd t n p) : mxl p t (rl t) = n := by
  have hle : mxl p t (rl t) ≤ n := by
    by_cases hc : mxl p t (rl t) ≤ n
    · exact hc
    · exfalso
      obtain ⟨k, q, g1, g2, g3⟩ := mxl_at p t (rl t) (by omega)
      have : Hd t (mxl p t (rl t) - 1) p := ⟨k, q, g1, by rw [g2]; congr 1; omega, g3⟩
      exact h2 (this.downs (by omega))
  cases n with
  | zero => omega
  | succ n =>
    obtain ⟨k, q, g1, g2, g3⟩ := h1 n (Nat.lt_succ_self n)
    have := mxl_ge p t (rl t) k q (n + 1) g1 g2 g3
    omega
/-- how many of the heads have a greater X -/
def upto (h : List Pr) (x : Int) : Nat := h.findIdx fun a => decide (a.X ≤ x)
/-- how many of the heads have no greater Y -/
def grt (h : List Pr) (y : Int) : Nat := h.findIdx fun a => decide (y < a.Y)
/-- the heads and p -/
def ins (h : List Pr) (p : Pr) : List Pr := h.take (upto h p.X) ++ p :: h.drop (grt h p.Y)
theorem upto_le (h : List Pr) (x : Int) : upto h x ≤ h.length := List.findIdx_le_length
theorem grt_le (h : List Pr) (y : Int) : grt h y ≤ h.length := List.findIdx_le_length
theorem upto_lt {h : List Pr} {x : Int} {i : Nat} (hi : i < upto h x) (hl : i < h.length) : x < h[i].X := by
  have := List.not_of_lt_findIdx (p := fun a : Pr => decide (a.X ≤ x)) (xs := h) hi
  simpa using this
theorem upto_ge {h : List Pr} (hs : Stair h) {x : Int} {i : Nat} (hi : upto h x ≤ i) (hl : i < h.length) : h[i].X ≤ x := by
  have h0 : upto h x < h.length := by omega
  have h1 : h[upto h x].X ≤ x := of_decide_eq_true (List.findIdx_getElem (p := fun a : Pr => decide (a.X ≤ x)) (xs := h) (w := h0))
  by_cases e : upto h x = i
  · simpa [e] using h1
  · have := (List.pairwise_iff_getElem.1 hs) (upto h x) i h0 hl (by omega)
    omega
theorem grt_lt {h : List Pr} {y : Int} {i : Nat} (hi : i < grt h y) (hl : i < h.length) : h[i].Y ≤ y := by
  have := List.not_of_lt_findIdx (p := fun a : Pr => decide (y < a.Y)) (xs := h) hi
  simpa using this
theorem grt_ge {h : List Pr} (hs : Stair h) {y : Int} {i : Nat} (hi : grt h y ≤ i) (hl : i < h.length) : y < h[i].Y := by
  have h0 : grt h y < h.length := by omega
  have h1 : y < h[grt h y].Y := of_decide_eq_true (List.findIdx_getElem (p := fun a : Pr => decide (y < a.Y)) (xs := h) (w := h0))
  by_cases e : grt h y = i
  · simpa [e] using h1
  · have := (List.pairwise_iff_getElem.1 hs) (grt h y) i h0 hl (by omega)
    omega
/-- one of the heads may stand behind p just if the last one with a great enough X does -/
theorem behind_iff {h : List Pr} (hs : Stair h) (p : Pr) : (∃ a ∈ h, ab a p) ↔ 0 < upto h p.X ∧ ∃ a, h[upto h p.X - 1]? = some a ∧ p.Y < a.Y := by
  constructor
  · rintro ⟨a, ha, h1, h2⟩
    obtain ⟨i, hi, rfl⟩ := List.getElem_of_mem ha
    have hlt : i < upto h p.X := by
      by_cases c : i < upto h p.X
      · exact c
      · have := upto_ge hs (x := p.X) (i := i) (by omega) hi; omega
    have hle := upto_le h p.X
    refine ⟨by omega, h[upto h p.X - 1], List.getElem?_eq_getElem (by omega), ?_⟩
    by_cases e : i = upto h p.X - 1
    · simpa [← e] using h2
    · have := (List.pairwise_iff_getElem.1 hs) i (upto h p.X - 1) hi (by omega) (by omega)
      omega
  · rintro ⟨h0, a, ha, h1⟩
    obtain ⟨hl, rfl⟩ := List.getElem?_eq_some_iff.1 ha
    exact ⟨_, List.getElem_mem _, upto_lt (by omega) hl, h1⟩
theorem upto_grt {h : List Pr} (hs : Stair h) {p : Pr} (hn : ¬ ∃ a ∈ h, ab a p) : upto h p.X ≤ grt h p.Y := by
  by_cases c : upto h p.X ≤ grt h p.Y
  · exact c
  · exfalso
    have hl := upto_le h p.X
    exact hn ⟨h[grt h p.Y]'(by omega), List.getElem_mem _, upto_lt (by omega) (by omega), grt_ge hs (Nat.le_refl _) (by omega)⟩
theorem ins_stair {h : List Pr} (hs : Stair h) {p : Pr} (hn : ¬ ∃ a ∈ h, ab a p) : Stair (ins h p) := by
  unfold ins Stair
  rw [List.pairwise_append]
  refine ⟨hs.take, ?_, ?_⟩
  · rw [List.pairwise_cons]
    refine ⟨fun a ha => ?_, hs.drop⟩
    obtain ⟨i, hi, rfl⟩ := List.getElem_of_mem ha
    rw [List.length_drop] at hi
    rw [List.getElem_drop]
    have hug := upto_grt hs hn
    exact ⟨upto_ge hs (by omega) (by omega), Int.le_of_lt (grt_ge hs (by omega) (by omega))⟩
  · intro a ha b hb
    obtain ⟨i, hi, rfl⟩ := List.getElem_of_mem ha
    rw [List.length_take] at hi
    rw [List.getElem_take]
    have h1 := upto_lt (h := h) (x := p.X) (i := i) (by omega) (by omega)
    rw [List.mem_cons] at hb
    rcases hb with hb | hb
    · rw [hb]
      refine ⟨Int.le_of_lt h1, ?_⟩
      by_cases c : h[i].Y ≤ p.Y
      · exact c
      · exact absurd ⟨h[i], List.getElem_mem _, h1, by omega⟩ hn
    · obtain ⟨j, hj, rfl⟩ := List.getElem_of_mem hb
      rw [List.length_drop] at hj
      rw [List.getElem_drop]
      have hug := upto_grt hs hn
      exact (List.pairwise_iff_getElem.1 hs) i (grt h p.Y + j) (by omega) (by omega) (by omega)
theorem ins_ab {h : List Pr} (hs : Stair h) {p : Pr} (hn : ¬ ∃ a ∈ h, ab a p) (q : Pr) : (∃ a ∈ ins h p, ab a q) ↔ ab p q ∨ ∃ a ∈ h, ab a q := by
  constructor
  · rintro ⟨a, ha, hq⟩
    unfold ins at ha
    rw [List.mem_append, List.mem_cons] at ha
    rcases ha with ha | rfl | ha
    · exact .inr ⟨a, List.mem_of_mem_take ha, hq⟩
    · exact .inl hq
    · exact .inr ⟨a, List.mem_of_mem_drop ha, hq⟩
  · rintro (hq | ⟨a, ha, hq⟩)
    · exact ⟨p, by simp [ins], hq⟩
    · obtain ⟨i, hi, rfl⟩ := List.getElem_of_mem ha
      by_cases c1 : i < upto h p.X
      · refine ⟨h[i], ?_, hq⟩
        unfold ins
        rw [List.mem_append]
        left
        rw [List.mem_take_iff_getElem]
        exact ⟨i, by omega, rfl⟩
      · by_cases c2 : i < grt h p.Y
        · have h1 := upto_ge hs (x := p.X) (i := i) (by omega) hi
          have h2 := grt_lt (y := p.Y) (i := i) c2 hi
          have := hq.1
          have := hq.2
          exact ⟨p, by simp [ins], by unfold ab; omega⟩
        · refine ⟨h[i], ?_, hq⟩
          unfold ins
          rw [List.mem_append, List.mem_cons]
          right; right
          rw [List.mem_drop_iff_getElem]
          exact ⟨i - grt h p.Y, by omega, by congr 1; omega⟩
/-- one more list of heads, where there is none yet -/
def room (H : List (List Pr)) (n : Nat) : List (List Pr) := if n = H.length then H ++ [[]] else H
theorem Hds.step {t : List Pr} {H : List (List Pr)} (h : Hds t H) {p : Pr} {n : Nat} (hn : n ≤ H.length) (h1 : ∀ m, m < n → Hd t m p) (h2 : ¬ Hd t n p) (g : List Pr) (hg : (room H n)[n]? = some g) :
    Hds (p :: t) ((room H n).set n (ins g p)) ∧ rl (p :: t) = (n + 1) :: rl t ∧ Stair g ∧ ¬ ∃ a ∈ g, ab a p := by
  have hm := mxl_of h h1 h2
  have hr : rl (p :: t) = (n + 1) :: rl t := by rw [rl, hm]
  have hgs : Stair g ∧ ∀ q, (∃ a ∈ g, ab a q) ↔ Hd t n q := by
    unfold room at hg
    by_cases e : n = H.length
    · rw [if_pos e, e, List.getElem?_append_right (Nat.le_refl _)] at hg
      simp at hg
      subst hg
      exact ⟨List.Pairwise.nil, fun q => ⟨by simp, fun hh => absurd hh (h.beyond (by omega) q)⟩⟩
    · rw [if_neg e] at hg
      exact ⟨h.st g (List.mem_of_getElem? hg), h.eq n g hg⟩
  have hna : ¬ ∃ a ∈ g, ab a p := fun c => h2 ((hgs.2 p).1 c)
  have hlen : H.length ≤ (room H n).length ∧ n < (room H n).length := by unfold room; split <;> simp <;> omega
  refine ⟨⟨?_, ?_, ?_⟩, hr, hgs.1, hna⟩
  · intro k hk
    rcases List.mem_or_eq_of_mem_set hk with hk | rfl
    · unfold room at hk
      split at hk
      · rw [List.mem_append, List.mem_singleton] at hk
        rcases hk with hk | rfl
        · exact h.st k hk
        · exact List.Pairwise.nil
      · exact h.st k hk
    · exact ins_stair hgs.1 hna
  · intro m k hk q
    by_cases e : m = n
    · subst e
      rw [List.getElem?_set_self hlen.2] at hk
      cases hk
      rw [ins_ab hgs.1 hna, hgs.2]
      constructor
      · rintro (hq | ⟨j, r, g1, g2, g3⟩)
        · exact ⟨0, p, rfl, by rw [hr]; rfl, hq⟩
        · exact ⟨j + 1, r, by simpa using g1, by rw [hr]; simpa using g2, g3⟩
      · rintro ⟨j, r, g1, g2, g3⟩
        cases j with
        | zero => simp at g1; subst g1; exact .inl g3
        | succ j => exact .inr ⟨j, r, by simpa using g1, by rw [hr] at g2; simpa using g2, g3⟩
    · rw [List.getElem?_set_ne (fun e' => e e'.symm)] at hk
      have hk' : H[m]? = some k := by
        unfold room at hk
        split at hk
        · by_cases hml : m < H.length
          · rwa [List.getElem?_append_left hml] at hk
          · have := (List.getElem?_eq_some_iff.1 hk).1
            simp at this
            omega
        · exact hk
      rw [h.eq m k hk']
      constructor
      · rintro ⟨j, r, g1, g2, g3⟩
        exact ⟨j + 1, r, by simpa using g1, by rw [hr]; simpa using g2, g3⟩
      · rintro ⟨j, r, g1, g2, g3⟩
        cases j with
        | zero => rw [hr] at g2; simp at g2; omega
        | succ j => exact ⟨j, r, by simpa using g1, by rw [hr] at g2; simpa using g2, g3⟩
  · intro m hm'
    rw [hr, List.mem_cons] at hm'
    rw [List.length_set]
    rcases hm' with rfl | hm'
    · omega
    · have := h.top m hm'
      omega
/-- what is picked: the next member of a longest row, from the front -/
def pick : Nat → Option Pr → List Pr → List Nat → List Pr
  | left, last, p :: l, n :: ns => if n = left ∧ (∀ q, last = some q → ab p q) then p :: pick (left - 1) (some p) l ns else pick left last l ns
  | _, _, _, _ => []
/-- the greatest number -/
def mxn : List Nat → Nat
  | [] => 0
  | n :: ns => max n (mxn ns)
/-- a longest rising row -/
def lng (l : List Pr) : List Pr := pick (mxn (rl l)) none l (rl l)
end Go.Proofs.YtncpkodfcifpkaaGreatDoor
