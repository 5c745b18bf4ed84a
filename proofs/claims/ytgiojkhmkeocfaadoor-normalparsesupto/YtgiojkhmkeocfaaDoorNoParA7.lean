/-
  Texts that belong together, joined: NpP, NpRp, NpRq.
-/
import Derived.Test.YtgiojkhmkeocfaaDoorNoParA6

/- The code's Parse of the normal form, walked. -/
namespace Go.Proofs.YtgiojkhmkeocfaaDoor
open Go.RowKit

theorem mem_flatP {a : List (List UInt8)} {t : List UInt8} (h : t ∈ a) : t.length ≤ a.flatten.length := by
  induction a with
  | nil => cases h
  | cons s a ih =>
    rw [List.flatten_cons, List.length_append]
    rcases List.mem_cons.1 h with rfl | h
    · omega
    · have := ih h
      omega
theorem split_short {t : List UInt8} {M : Nat} (h : t.length ≤ M) : ∀ s ∈ Ln.splitL t, s.length ≤ M := by
  intro s hs
  have h1 := congrArg List.length (Ln.split_join t)
  have h2 := mem_flatP hs
  omega
theorem RdQ.base {w W : World} {X : Except (Nat × Int) (List Hk)} {e : Ending} {w' : World} (hB : Below w.heap.size w W) (h : RdQ W X e w') : RdQ w X e w' := by
  unfold RdQ at h ⊢
  rcases X with ⟨a, z⟩ | l
  · obtain ⟨g, h1, h2, h3⟩ := h
    exact ⟨g, h1, h2, hB.trans (h3.mono hB.size)⟩
  · obtain ⟨v, P, h1, h2, h3⟩ := h
    exact ⟨v, P, h1, h2.base hB, h3⟩
set_option maxHeartbeats 2000000 in
theorem nPars_f (t : List UInt8) (w : World) (hl : t.length ≤ 1099511627776) (X : Except (Nat × Int) (List Hk)) (HX : Hid (prsT t = X)) :
    Calls Tryd.prog 11 #[.string ⟨t.toArray⟩] w fun e w' => RdQ w X e w' := by
  have hX := HX.out
  clear HX
  rw [prs_code] at hX
  by_cases hlong : 1048576 < t.length
  · rw [if_pos hlong] at hX
    subst hX
    have HA : Hid ((w.alloc (fltO ((0 : Nat) : Int) 9)).heap[w.heap.size]? = some (fltO ((0 : Nat) : Int) 9) ∧ Below w.heap.size w (w.alloc (fltO ((0 : Nat) : Int) 9))) := ⟨heap_alloc_new w _, (Below.refl _ w).alloc (Nat.le_refl _) _⟩
    have i1 : (1048576 : Int) < (t.length : Int) := by omega
    go_enter Tryd.func11, Tryd.ntmps11
    go_wp2
    go_ret2
    exact ⟨_, rfl, HA.out.1, HA.out.2⟩
  · rw [if_neg hlong] at hX
    have HX2 : Hid (hksK (Ln.splitL t).length 0 0 (Ln.splitL t) = X) := hX
    have hsl := Ln.split_len t
    have HSl : Hid (∀ s ∈ Ln.splitL t, s.length ≤ 1048576) := split_short (by omega)
    have HPl : Hid (Plain (Ln.splitL t)) := split_plain t
    have hs := nSplit_f t w hl
    have i1 : ¬ (1048576 : Int) < (t.length : Int) := by omega
    clear hX
    generalize Ln.splitL t = L at *
    go_enter Tryd.func11, Tryd.ntmps11
    go_wp2_with fail
    refine hs.mono ?_
    rintro e w1 ⟨v, rfl, hown, hb⟩
    have hL : HS w1 v L := holds_of hown
    obtain ⟨lo, lc, rfl⟩ := Holds.form hL
    go_wp2_with fail
    refine (nread_f L lo lc w1 hL HPl (by omega) HSl X HX2).mono ?_
    intro e w2 hq
    have hq2 := RdQ.base hb hq
    clear hq
    cases X with
    | error z =>
      obtain ⟨a, z⟩ := z
      obtain ⟨g, rfl, h1, h2⟩ := hq2
      go_wp2
      go_ret2
      exact ⟨g, rfl, h1, h2⟩
    | ok l =>
      obtain ⟨v', P, rfl, h1, h2⟩ := hq2
      obtain ⟨o, c, rfl⟩ := (holds_of h1.own).form
      go_wp2
      go_ret2
      exact ⟨_, P, rfl, h1, h2⟩
end Go.Proofs.YtgiojkhmkeocfaaDoor

/- The reference's Read of layer 12, walked. -/
namespace Go.Proofs.YtgiojkhmkeocfaaDoor
open Go.RowKit

set_option maxHeartbeats 2000000 in
theorem rRead_long (t : List UInt8) (w : World) (hlong : 1048576 < t.length) :
    Calls Tryd.prog 40 #[.string ⟨t.toArray⟩] w fun e w' => e = .returned (.pointer (some ⟨w.heap.size, 0, none⟩)) ∧ Rx w' w.heap.size (.slice none 0 0) 0 0 9 ∧ Below w.heap.size w w' := by
  have HA : Hid (Rx (w.alloc (rdO (.slice none 0 0) 0 0 9)) w.heap.size (.slice none 0 0) 0 0 9 ∧ Below w.heap.size w (w.alloc (rdO (.slice none 0 0) 0 0 9))) := ⟨heap_alloc_new w _, (Below.refl _ w).alloc (Nat.le_refl _) _⟩
  have i1 : (1048576 : Int) < (t.length : Int) := by omega
  go_enter Tryd.func40, Tryd.ntmps40
  go_wp2
  go_ret
  exact ⟨rfl, HA.out.1, HA.out.2⟩
set_option maxHeartbeats 2000000 in
theorem rRead_f (t : List UInt8) (w : World) (hl : t.length ≤ 1048576) :
    Calls Tryd.prog 40 #[.string ⟨t.toArray⟩] w fun e w' => ∃ R lo lc, e = .returned (.pointer (some ⟨R, 0, none⟩)) ∧ Rx w' R (.slice lo (Ln.splitL t).length lc) 0 0 0 ∧ w'.ownsRow w.heap.size 9 1 (.slice lo (Ln.splitL t).length lc) (Ln.splitL t).length (scells (Ln.splitL t)) ∧ (∀ a, lo = some a → a.block ≠ R) ∧ w.heap.size ≤ R ∧ Below w.heap.size w w' := by
  have hs := rSplit_f t w (by omega)
  have i1 : ¬ (1048576 : Int) < (t.length : Int) := by omega
  generalize Ln.splitL t = L at *
  go_enter Tryd.func40, Tryd.ntmps40
  go_wp2_with fail
  refine hs.mono ?_
  rintro e w1 ⟨v, rfl, hown, hb⟩
  have hL : HS w1 v L := holds_of hown
  obtain ⟨lo, lc, rfl⟩ := Holds.form hL
  have HA : Hid (Rx (w1.alloc (rdO (.slice lo L.length lc) 0 0 0)) w1.heap.size (.slice lo L.length lc) 0 0 0 ∧ (w1.alloc (rdO (.slice lo L.length lc) 0 0 0)).ownsRow w.heap.size 9 1 (.slice lo L.length lc) L.length (scells L) ∧ (∀ a, lo = some a → a.block ≠ w1.heap.size) ∧ w.heap.size ≤ w1.heap.size ∧ Below w.heap.size w (w1.alloc (rdO (.slice lo L.length lc) 0 0 0))) := (by
    refine ⟨heap_alloc_new w1 _, hown.alloc _, ?_, hb.size, hb.alloc hb.size _⟩
    intro a ha e
    rcases hown.2 with ⟨h1, _⟩ | ⟨g, cap, cur, h1, _, h2, _⟩
    · injection h1 with h3 _ _
      rw [h3] at ha
      cases ha
    · cases h1
      cases ha
      have := (Array.getElem?_eq_some_iff.1 h2).1
      dsimp only at e
      omega)
  clear hs hb
  go_wp2
  go_ret
  exact ⟨_, _, _, rfl, HA.out⟩
end Go.Proofs.YtgiojkhmkeocfaaDoor

/- The reference's Parse of layer 12: what its variables hold. -/
namespace Go.Proofs.YtgiojkhmkeocfaaDoor
open Go.RowKit

/-- Parse's own variables: the hunks, the fault that is answered -/
structure Pr (w : World) (R : Nat) (ov : Value) (P : List (Hk × Value)) (u : World) : Prop where
  hs : Hs w ov P u
  fb : u.heap[w.heap.size]? = some (.cells #[.int .i64 0, .int .i64 0] 35)
  hR : w.heap.size < R
section
variable {w u u' : World} {R : Nat} {ov : Value} {P : List (Hk × Value)}
theorem Pr.call (h : Pr w R ov P u) {vL : Value} {p fa fe : Int} (q : Rx u R vL p fa fe) (hg : u.grownBy u' (some R)) : Pr w R ov P u' := by
  have h1 := h.hR
  refine ⟨h.hs.grown hg (fun k e => by cases e; omega) (fun k e => by cases e; exact own_box h.hs.own q (by decide)) (fun x hx k e => by cases e; exact own_box (h.hs.ins x hx) q (by decide)), ?_, h.hR⟩
  exact (hg.block _ (Array.getElem?_eq_some_iff.1 h.fb).1 (fun e => by have := Option.some.inj e; omega)).trans h.fb
theorem Pr.dN (h : Pr w R ov P u) (n : Nat) : Pr w R ov P (u.drewN n) := ⟨h.hs.drewN n, h.fb, h.hR⟩
theorem Pr.alloc (h : Pr w R ov P u) (o : Obj) : Pr w R ov P (u.alloc o) := ⟨h.hs.alloc o, (Lib.alloc_old u o _ (Array.getElem?_eq_some_iff.1 h.fb).1).trans h.fb, h.hR⟩
theorem Pr.more (h : Pr w R ov P u) {x : Hk} {y ov' : Value} (hy : u.ownsRow w.heap.size 91 2 y x.ls.length (mkcells x.ls)) (hg : u.grownBy u' ov.ownBlock) (ho : u'.ownsRow w.heap.size 43 5 ov' (P.length + 1) (hkcells P ++ hkC x y)) :
    Pr w R ov' (P ++ [(x, y)]) u' ∧ ∀ {vL : Value} {p fa fe : Int}, Rx u R vL p fa fe → Rx u' R vL p fa fe :=
  ⟨⟨h.hs.more hy hg ho, (hg.block _ (Array.getElem?_eq_some_iff.1 h.fb).1 (fun e => own_box h.hs.own h.fb (by decide) e.symm)).trans h.fb, h.hR⟩, fun q => q.keep hg (fun e => own_box h.hs.own q (by decide) e.symm)⟩
end
/-- where the reader stands between two hunks -/
def AlP (R : Nat) (vL : Value) (L : List (List UInt8)) (X : Except (Nat × Int) (List Hk)) (P : List (Hk × Value)) (u : World) : Prop :=
  (∃ p f : Nat, Rx u R vL (p : Int) 0 0 ∧ p ≤ L.length ∧ P.length ≤ p ∧ (L.drop p).length ≤ f ∧ thenH (P.map (·.1)) (hksP f P.length p (L.drop p)) = X) ∨ (∃ (p' : Int) (a : Nat) (fe : Int), Rx u R vL p' (a : Int) fe ∧ fe ≠ 0 ∧ X = .error (a, fe))
/-- how much is left -/
def rmAt (u : World) (R n : Nat) : Nat := match u.heap[R]? with
  | some (.cells cs _ _) => match cs[1]?, cs[3]? with
    | some (Value.int _ p), some (Value.int _ fe) => if fe = 0 then n + 1 - p.toNat else 0
    | _, _ => 0
  | _ => 0
theorem rmAt_ok {u : World} {R n : Nat} {vL : Value} {p : Nat} {fa : Int} (h : Rx u R vL (p : Int) fa 0) : rmAt u R n = n + 1 - p := by
  unfold Rx rdO at h
  unfold rmAt
  rw [h]
  simp
theorem rmAt_no {u : World} {R n : Nat} {vL : Value} {p fa fe : Int} (h : Rx u R vL p fa fe) (hf : fe ≠ 0) : rmAt u R n = 0 := by
  unfold Rx rdO at h
  unfold rmAt
  rw [h]
  simp [hf]
set_option maxHeartbeats 1000000 in
theorem rMore_no {R : Nat} {n c : Nat} {lo : Option Addr} {p fa fe : Int} (w : World) (q : Rx w R (.slice lo n c) p fa fe) (hf : fe ≠ 0) :
    Calls Tryd.prog 41 #[.pointer (some ⟨R, 0, none⟩)] w fun x w' => x = .returned (.bool false) ∧ ∃ m, w' = w.drewN m := by
  obtain ⟨c0, c1, c2, c3⟩ := q.cells
  clear q
  have h1 : (fe == 0) = false := beq_eq_false_iff_ne.2 hf
  go_enter Tryd.func41, Tryd.ntmps41
  go_wp2_with fail
  go_quiet (fail)
  go_wp2
  go_ret
  exact ⟨rfl, _, rfl⟩
theorem hksP_step {f k p p1 : Nat} {ls r : List (List UInt8)} {h : Hk} (hne : ls ≠ []) (hk : hkP k p ls = .ok (h, p1, r)) (l : List Hk) : thenH l (hksP (f + 1) k p ls) = thenH (l ++ [h]) (hksP f (k + 1) p1 r) := by
  simp only [hksP]
  rw [if_neg hne, hk]
  dsimp only
  cases hksP f (k + 1) p1 r with
  | error e => rfl
  | ok m => simp [thenH]
theorem hksP_stop {f k p : Nat} {ls : List (List UInt8)} {e : Nat × Int} (hne : ls ≠ []) (hk : hkP k p ls = .error e) (l : List Hk) : thenH l (hksP (f + 1) k p ls) = .error e := by
  simp only [hksP]
  rw [if_neg hne, hk]
  rfl
/-- a row stays where another block is written -/
theorem row_far {u u' : World} {B : Nat} {e : TypeId} {s n : Nat} {v : Value} {xs : List Value} (h : u.ownsRow B e s v n xs) {g : Option Nat} (hg : u.grownBy u' g) (hne : ∀ k, g = some k → v.ownBlock ≠ some k) : u'.ownsRow B e s v n xs := by
  refine ⟨h.1, ?_⟩
  rcases h.2 with q | ⟨b, cap, cur, rfl, q2, q3, q4⟩
  · exact .inl q
  · refine .inr ⟨b, cap, cur, rfl, q2, ?_, q4⟩
    rw [hg.block b (Array.getElem?_eq_some_iff.1 q3).1 (fun e => hne b e.symm rfl)]
    exact q3
theorem row_two {u u' : World} {B B' : Nat} {e e' : TypeId} {s n s' n' : Nat} {v v' : Value} {xs xs' : List Value} (h : u.ownsRow B e s v n xs) (h' : u.ownsRow B' e' s' v' n' xs') (hne : e' ≠ e) (hg : u.grownBy u' v'.ownBlock) : u'.ownsRow B e s v n xs := by
  refine ⟨h.1, ?_⟩
  rcases h.2 with q | ⟨b, cap, cur, rfl, q2, q3, q4⟩
  · exact .inl q
  · refine .inr ⟨b, cap, cur, rfl, q2, ?_, q4⟩
    rw [hg.block b (Array.getElem?_eq_some_iff.1 q3).1 (fun e => own_box h' q3 hne e.symm)]
    exact q3
/-- what the reference's Parse answers -/
def RpQ (w : World) (X : Except (Nat × Int) (List Hk)) (e : Ending) (w' : World) : Prop :=
  match X with
  | .error (a, z) => e = .returned (.tuple #[.slice none 0 0, .agg #[.int .i64 (a : Int), .int .i64 z]]) ∧ Below w.heap.size w w'
  | .ok l => ∃ v' P, e = .returned (.tuple #[v', .agg #[.int .i64 0, .int .i64 0]]) ∧ Hs w v' P w' ∧ P.map (·.1) = l
end Go.Proofs.YtgiojkhmkeocfaaDoor
