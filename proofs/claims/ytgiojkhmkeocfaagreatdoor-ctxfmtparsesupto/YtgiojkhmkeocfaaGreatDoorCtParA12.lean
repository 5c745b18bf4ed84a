/-
  Texts that belong together, joined: PgM, CpP, NpT, CrS, CpQ, CrX, CrY.
-/
import Derived.Test.YtgiojkhmkeocfaaGreatDoorCtParA11
import Derived.Test.YtgiojkhmkeocfaaGreatDoorCtParA2
import Derived.Test.YtgiojkhmkeocfaaGreatDoorCtParA4
import Derived.Test.YtgiojkhmkeocfaaGreatDoorCtParA6
import Derived.Test.YtgiojkhmkeocfaaGreatDoorCtParA5

/- Patches as the references of layers 15 and 16 read them, by states, for any way of reading a hunk; plain mathematics. -/
set_option maxRecDepth 20000
namespace Go.Proofs.YtgiojkhmkeocfaaGreatDoor
open Ln

abbrev HkF := Nat → List (List UInt8) → Nat → Except (Nat × Int) (Hk × Nat)
/-- the hunks of a patch -/
def gHs (G : HkF) (x : List UInt8) (L : List (List UInt8)) : Nat → Nat → Nat → Except (Nat × Int) (List Hk × Nat)
  | 0, _, p => .error (p + 1, 1)
  | f + 1, k, p => match G k L p with
    | .error e => .error e
    | .ok (h, p1) => if pkG x (L.drop p1) = true then (match gHs G x L f (k + 1) p1 with
        | .error e => .error e
        | .ok (l, p2) => .ok (h :: l, p2)) else .ok ([h], p1)
/-- hunks that were read, and those that are left -/
def gLf (G : HkF) (x : List UInt8) (L : List (List UInt8)) (l : List Hk) (f p : Nat) : Except (Nat × Int) (List Hk × Nat) :=
  if (decide (l = []) || pkG x (L.drop p)) = true then (match gHs G x L f l.length p with
    | .error e => .error e
    | .ok (m, p2) => .ok (l ++ m, p2)) else .ok (l, p)
theorem gLf_nil (G : HkF) (x : List UInt8) (L : List (List UInt8)) (f p : Nat) : gLf G x L [] f p = gHs G x L f 0 p := by
  unfold gLf
  rw [if_pos (by simp), List.length_nil]
  cases gHs G x L f 0 p with
  | error e => rfl
  | ok z => rfl
theorem gLf_no {G : HkF} {x : List UInt8} {L : List (List UInt8)} {l : List Hk} {p : Nat} (h : (decide (l = []) || pkG x (L.drop p)) = false) (f : Nat) : gLf G x L l f p = .ok (l, p) := by
  unfold gLf
  rw [if_neg (by rw [h]; decide)]
theorem gLf_go {G : HkF} {x : List UInt8} {L : List (List UInt8)} {l : List Hk} {p : Nat} (h : (decide (l = []) || pkG x (L.drop p)) = true) (f : Nat) : gLf G x L l (f + 1) p = match G l.length L p with
    | .error e => .error e
    | .ok (y, p1) => gLf G x L (l ++ [y]) f p1 := by
  unfold gLf
  rw [if_pos h]
  simp only [gHs]
  cases G l.length L p with
  | error e => rfl
  | ok z =>
    obtain ⟨y, p1⟩ := z
    dsimp only
    have e1 : (decide (l ++ [y] = []) || pkG x (L.drop p1)) = pkG x (L.drop p1) := by simp
    have e2 : (l ++ [y]).length = l.length + 1 := by simp
    rw [e1, e2]
    by_cases h2 : pkG x (L.drop p1) = true
    · rw [if_pos h2, if_pos h2]
      cases gHs G x L f (l.length + 1) p1 with
      | error e => rfl
      | ok z => simp
    · rw [if_neg h2, if_neg h2]
/-- what is left of a patch at its hunks -/
def gIn (n1 n2 : List UInt8) (Y : Except (Nat × Int) (List Hk × Nat)) : Except (Nat × Int) (Pth × Nat) := match Y with
  | .error e => .error e
  | .ok (hs, p3) => .ok (⟨n1, n2, hs⟩, p3)
/-- a patch -/
def gPa (G : HkF) (x a1 a2 : List UInt8) (L : List (List UInt8)) (k p : Nat) : Except (Nat × Int) (Pth × Nat) := match nmZ a1 L (.ok p) with
    | .error e => .error e
    | .ok (n1, p1) => if 64 ≤ k then .error (p1, 9) else match nmZ a2 L (.ok p1) with
      | .error e => .error e
      | .ok (n2, p2) => gIn n1 n2 (gHs G x L ((L.drop p2).length + 1) 0 p2)
/-- all patches -/
def gPs (G : HkF) (x a1 a2 : List UInt8) (L : List (List UInt8)) : Nat → Nat → Nat → Except (Nat × Int) (List Pth)
  | 0, _, _ => .ok []
  | f + 1, k, p => if L.length ≤ p then .ok [] else match gPa G x a1 a2 L k p with
    | .error e => .error e
    | .ok (y, p3) => match gPs G x a1 a2 L f (k + 1) p3 with
      | .error e => .error e
      | .ok l => .ok (y :: l)
/-- how far a hunk's reader goes -/
def GOk (G : HkF) (L : List (List UInt8)) : Prop := ∀ k p h p1, G k L p = .ok (h, p1) → p < p1 ∧ p1 ≤ L.length
theorem nmZ_ok {ah : List UInt8} {L : List (List UInt8)} {p p1 : Nat} {n : List UInt8} (h : nmZ ah L (.ok p) = .ok (n, p1)) : p1 = p + 1 ∧ p < L.length := by
  unfold nmZ at h
  dsimp only at h
  cases h1 : namP ah p (L.drop p) with
  | error e => rw [h1] at h; cases h
  | ok z =>
    obtain ⟨n1, r1⟩ := z
    obtain ⟨_, h2⟩ := nam_drop h1
    rw [h1] at h
    cases h
    exact ⟨rfl, h2⟩
theorem gHs_ok {G : HkF} {x : List UInt8} {L : List (List UInt8)} (hG : GOk G L) (f : Nat) : ∀ {k p p1 : Nat} {hs : List Hk}, gHs G x L f k p = .ok (hs, p1) → p < p1 ∧ p1 ≤ L.length := by
  induction f with
  | zero => intro k p p1 hs h; cases h
  | succ f ih =>
    intro k p p1 hs h
    simp only [gHs] at h
    cases h1 : G k L p with
    | error e => rw [h1] at h; cases h
    | ok z =>
      obtain ⟨y, p2⟩ := z
      have h2 := hG _ _ _ _ h1
      rw [h1] at h
      dsimp only at h
      split at h
      · cases h3 : gHs G x L f (k + 1) p2 with
        | error e => rw [h3] at h; cases h
        | ok z =>
          obtain ⟨l, p3⟩ := z
          have h4 := ih h3
          rw [h3] at h
          cases h
          omega
      · cases h
        exact h2
theorem gPa_ok {G : HkF} {x a1 a2 : List UInt8} {L : List (List UInt8)} (hG : GOk G L) {k p p3 : Nat} {y : Pth} (h : gPa G x a1 a2 L k p = .ok (y, p3)) : p < p3 ∧ p3 ≤ L.length ∧ k < 64 := by
  unfold gPa at h
  cases h1 : nmZ a1 L (.ok p) with
  | error e => rw [h1] at h; cases h
  | ok z =>
    obtain ⟨n1, p1⟩ := z
    obtain ⟨rfl, _⟩ := nmZ_ok h1
    rw [h1] at h
    dsimp only at h
    split at h
    · cases h
    · cases h2 : nmZ a2 L (.ok (p + 1)) with
      | error e => rw [h2] at h; cases h
      | ok z =>
        obtain ⟨n2, p2⟩ := z
        obtain ⟨rfl, _⟩ := nmZ_ok h2
        rw [h2] at h
        dsimp only at h
        cases h3 : gHs G x L ((L.drop (p + 1 + 1)).length + 1) 0 (p + 1 + 1) with
        | error e => rw [h3] at h; cases h
        | ok z =>
          obtain ⟨hs, p4⟩ := z
          have h4 := gHs_ok hG _ h3
          rw [h3] at h
          cases h
          omega
theorem gPs_end {G : HkF} {x a1 a2 : List UInt8} {L : List (List UInt8)} {p : Nat} (h : L.length ≤ p) (f k : Nat) (l : List Pth) : thenPs l (gPs G x a1 a2 L f k p) = .ok l := by
  cases f with
  | zero => simp [gPs, thenPs]
  | succ f => simp [gPs, thenPs, h]
theorem gPs_go {G : HkF} {x a1 a2 : List UInt8} {L : List (List UInt8)} {p : Nat} (h : p < L.length) (f k : Nat) (l : List Pth) : thenPs l (gPs G x a1 a2 L (f + 1) k p) = match gPa G x a1 a2 L k p with
    | .error e => .error e
    | .ok (y, p3) => thenPs (l ++ [y]) (gPs G x a1 a2 L f (k + 1) p3) := by
  simp only [gPs]
  rw [if_neg (by omega)]
  cases gPa G x a1 a2 L k p with
  | error e => rfl
  | ok z =>
    obtain ⟨y, p3⟩ := z
    dsimp only
    cases gPs G x a1 a2 L f (k + 1) p3 with
    | error e => rfl
    | ok l => simp [thenPs]

/- layer 15 -/
theorem hs_g (f : Nat) : ∀ (k : Nat) (L : List (List UInt8)) (p : Nat), hsZ f k L p = gHs hkZ starsT L f k p := by
  induction f with
  | zero => intro k L p; rfl
  | succ f ih =>
    intro k L p
    rw [hsZ_step]
    simp only [gHs]
    cases hkZ k L p with
    | error e => rfl
    | ok z =>
      obtain ⟨h, p1⟩ := z
      dsimp only
      rw [ih]
      cases gHs hkZ starsT L f (k + 1) p1 <;> rfl
theorem ps_g (f : Nat) : ∀ (k : Nat) (L : List (List UInt8)) (p : Nat), cxPs f k p (L.drop p) = gPs hkZ starsT [42, 42, 42, 32] [45, 45, 45, 32] L f k p := by
  induction f with
  | zero => intro k L p; rfl
  | succ f ih =>
    intro k L p
    rw [psZ_step, paZ_eq]
    simp only [gPs, gPa]
    by_cases h0 : L.length ≤ p
    · rw [if_pos h0, if_pos h0]
    · rw [if_neg h0, if_neg h0]
      cases nmZ [42, 42, 42, 32] L (.ok p) with
      | error e => rfl
      | ok z =>
        obtain ⟨n1, p1⟩ := z
        dsimp only
        by_cases h1 : 64 ≤ k
        · rw [if_pos h1, if_pos h1]
        · rw [if_neg h1, if_neg h1]
          cases nmZ [45, 45, 45, 32] L (.ok p1) with
          | error e => rfl
          | ok z =>
            obtain ⟨n2, p2⟩ := z
            dsimp only
            rw [hs_g]
            cases gHs hkZ starsT L ((L.drop p2).length + 1) 0 p2 with
            | error e => rfl
            | ok z =>
              obtain ⟨hs, p3⟩ := z
              dsimp only [gIn]
              rw [ih]
              cases gPs hkZ starsT [42, 42, 42, 32] [45, 45, 45, 32] L f (k + 1) p3 <;> rfl
theorem gok15 (L : List (List UInt8)) : GOk hkZ L := by
  intro k p h p1 hh
  unfold hkZ at hh
  cases h1 : cxH k p (L.drop p) with
  | error e => rw [h1] at hh; cases hh
  | ok z =>
    obtain ⟨h0, p2, r⟩ := z
    rw [h1] at hh
    cases hh
    have hk : k ≤ 4096 := by
      unfold cxH at h1
      split at h1
      · cases h1
      · split at h1
        · split at h1
          · cases h1
          · omega
        · cases h1
    have := cxH_drop hk h1
    omega
end Go.Proofs.YtgiojkhmkeocfaaGreatDoor

/- The code's Parse of layer 15, walked: the patches of a text, or what was thrown. -/
set_option maxRecDepth 20000
namespace Go.Proofs.YtgiojkhmkeocfaaGreatDoor
open Go.RowKit
open Ln

theorem cxHs_drop (f : Nat) : ∀ {k p : Nat} {L r : List (List UInt8)} {hs : List Hk} {p1 : Nat}, k ≤ 4096 → cxHs f k p (L.drop p) = .ok (hs, p1, r) → r = L.drop p1 ∧ p < p1 ∧ p1 ≤ L.length := by
  induction f with
  | zero =>
    intro k p L r hs p1 _ h
    simp only [cxHs] at h
    cases h
  | succ f ih =>
    intro k p L r hs p1 hk h
    simp only [cxHs] at h
    cases hh : cxH k p (L.drop p) with
    | error e => rw [hh] at h; cases h
    | ok z =>
      obtain ⟨x, p2, r2⟩ := z
      obtain ⟨rfl, b2, b3, b4⟩ := cxH_drop hk hh
      rw [hh] at h
      dsimp only at h
      split at h
      · cases h2 : cxHs f (k + 1) p2 (L.drop p2) with
        | error e => rw [h2] at h; cases h
        | ok z =>
          obtain ⟨l, p3, r3⟩ := z
          rw [h2] at h
          injection h with h
          injection h with e1 e2
          injection e2 with e2 e3
          subst e2 e3
          obtain ⟨c1, c2, c3⟩ := ih (by omega) h2
          exact ⟨c1, by omega, c3⟩
      · injection h with h
        injection h with e1 e2
        injection e2 with e2 e3
        subst e2 e3
        exact ⟨rfl, b2, b3⟩
theorem pat_drop {k p : Nat} {L r : List (List UInt8)} {x : Pth} {p1 : Nat} (h : patP k p (L.drop p) = .ok (x, p1, r)) : r = L.drop p1 ∧ p < p1 ∧ p1 ≤ L.length ∧ k < 64 := by
  have hk := patP_drop h
  unfold patP at h
  cases hn : namP [42, 42, 42, 32] p (L.drop p) with
  | error e => rw [hn] at h; cases h
  | ok z =>
    obtain ⟨n1, r1⟩ := z
    obtain ⟨rfl, b1⟩ := nam_drop hn
    rw [hn] at h
    dsimp only at h
    rw [if_neg (by omega)] at h
    cases hn2 : namP [45, 45, 45, 32] (p + 1) (L.drop (p + 1)) with
    | error e => rw [hn2] at h; cases h
    | ok z =>
      obtain ⟨n2, r2⟩ := z
      obtain ⟨rfl, b2⟩ := nam_drop hn2
      rw [hn2] at h
      dsimp only at h
      cases hh : cxHs ((L.drop (p + 1 + 1)).length + 1) 0 (p + 2) (L.drop (p + 1 + 1)) with
      | error e => rw [hh] at h; cases h
      | ok z =>
        obtain ⟨hs, p3, r3⟩ := z
        rw [hh] at h
        injection h with h
        injection h with e1 e2
        injection e2 with e2 e3
        subst e2 e3
        obtain ⟨c1, c2, c3⟩ := cxHs_drop _ (L := L) (p := p + 2) (by omega) hh
        exact ⟨c1, by omega, c3, hk⟩
theorem mem_flatC (l : List (List UInt8)) : ∀ s ∈ l, s.length ≤ l.flatten.length := by
  induction l with
  | nil => intro s hs; cases hs
  | cons a l ih =>
    intro s hs
    rw [List.flatten_cons, List.length_append]
    rcases List.mem_cons.1 hs with rfl | h
    · omega
    · have := ih s h
      omega
theorem split_shortC {t : List UInt8} {M : Nat} (h : t.length ≤ M) : ∀ s ∈ Ln.splitL t, s.length ≤ M := by
  intro s hs
  have h1 := congrArg List.length (Ln.split_join t)
  have h2 := mem_flatC _ s hs
  omega
theorem load_pxs {u : World} {a : Addr} {o : Option Addr} {n c : Nat} (h : u.cell? a = some (.slice o n c)) {op : Oper} (x : Operand) (ho : op.op = .load 48 x) {ev : Operand → Value} (hx : ev x = .pointer (some a)) :
    (execOp ev op).run Tryz.prog u = .ok (.value (.slice o n c)) u := by
  simp only [execOp, ho, hx]
  go_simp
theorem exec_storePx {u : World} {a : Addr} {v0 : Value} (hc : u.cell? a = some v0) (hf : u.frozen? a = false) {o : Option Addr} {n c : Nat} {op : Oper} (x y : Operand) (ho : op.op = .store 48 x y) {ev : Operand → Value} (hx : ev x = .pointer (some a)) (hy : ev y = .slice o n c) :
    (execOp ev op).run Tryz.prog u = .ok .skip (u.setCell a (.slice o n c)) := by
  simp only [execOp, ho, hx, hy]
  go_simp
/-- what is left behind by what is thrown -/
def PnP (w : World) (X : Except (Nat × Int) (List Pth)) (c : List PanicEntry) (u : World) : Prop :=
  ∃ (g a : Nat) (z : Int) (v0 : Value), c = [{ v := .iface 86 (.pointer (some ⟨g, 0, none⟩)), recovered := false }] ∧ u.heap[g]? = some (fltO (a : Int) z) ∧ X = .error (a, z) ∧ Below w.heap.size w u ∧ u.heap[w.heap.size]? = some (.cells #[v0] 48) ∧ u.heap[w.heap.size + 1]? = some (.cells #[.nilIface] 36)
set_option maxHeartbeats 2000000 in
theorem pnp_done {w : World} {X : Except (Nat × Int) (List Pth)} : ∀ c (a : Act) u, PnP w X c u → a.tmps.getD 2 undef = .pointer (some ⟨w.heap.size, 0, none⟩) → a.tmps.getD 3 undef = .pointer (some ⟨w.heap.size + 1, 0, none⟩) → a.defers = [{ target := .fn (.func 50) #[.pointer (some ⟨w.heap.size, 0, none⟩), .pointer (some ⟨w.heap.size + 1, 0, none⟩)], args := #[] }] → bodyPostD Tryz.prog Tryz.f20 (fun e w' => PrQ w X e w') (.panic c) a u := by
  rintro c a u ⟨g, pa, z, v0, rfl, hg, rfl, hlow, f0, f1⟩ h2 h3 hd
  show Leaves Tryz.prog Tryz.f20 a.tmps (fun e w' => PrQ w (.error (pa, z)) e w') a.defers _ u
  rw [hd]
  have g0 : g ≠ w.heap.size := (by rintro rfl; rw [f0] at hg; unfold fltO at hg; simp at hg)
  have g1 : g ≠ w.heap.size + 1 := (by rintro rfl; rw [f1] at hg; unfold fltO at hg; simp at hg)
  refine leaves_cons (f := 50) (args := #[.pointer (some ⟨w.heap.size, 0, none⟩), .pointer (some ⟨w.heap.size + 1, 0, none⟩)]) (by simp) (by simp [go_sem]) ?_
  refine (catch_faultC w.heap.size (w.heap.size + 1) g v0 .nilIface [] u (by omega) (by rw [Lib.cell_of_heap f0]; rfl) (Lib.frozen_of_heap f0 0) (by rw [Lib.cell_of_heap f1]; rfl) (Lib.frozen_of_heap f1 0)).mono ?_
  rintro e u' w'' ⟨rfl, rfl, rfl⟩
  have s0 := heap_setCell_same u w.heap.size 0 _ _ (.slice none 0 0) f0
  have s1 : (u.setCell ⟨w.heap.size, 0, none⟩ (.slice none 0 0)).heap[w.heap.size + 1]? = some (.cells #[.nilIface] 36) := (Below.heap_setCell _ _ _ _ (by simp)).trans f1
  have s2 := heap_setCell_same _ (w.heap.size + 1) 0 _ _ (.iface 86 (.pointer (some ⟨g, 0, none⟩))) s1
  have s3 : ((u.setCell ⟨w.heap.size, 0, none⟩ (.slice none 0 0)).setCell ⟨w.heap.size + 1, 0, none⟩ (.iface 86 (.pointer (some ⟨g, 0, none⟩)))).heap[w.heap.size]? = some (.cells #[.slice none 0 0] 48) := (Below.heap_setCell _ _ _ _ (by simp)).trans s0
  have s4 : ((u.setCell ⟨w.heap.size, 0, none⟩ (.slice none 0 0)).setCell ⟨w.heap.size + 1, 0, none⟩ (.iface 86 (.pointer (some ⟨g, 0, none⟩)))).heap[g]? = some (fltO (pa : Int) z) := ((Below.heap_setCell _ _ _ _ (by simpa using g1)).trans (Below.heap_setCell _ _ _ _ (by simpa using g0))).trans hg
  have hl : Below w.heap.size w ((u.setCell ⟨w.heap.size, 0, none⟩ (.slice none 0 0)).setCell ⟨w.heap.size + 1, 0, none⟩ (.iface 86 (.pointer (some ⟨g, 0, none⟩)))).drew := ((hlow.setCell (Nat.le_refl _) _).setCell (by show w.heap.size ≤ w.heap.size + 1; omega) _).drew
  generalize (u.setCell ⟨w.heap.size, 0, none⟩ (.slice none 0 0)).setCell ⟨w.heap.size + 1, 0, none⟩ (.iface 86 (.pointer (some ⟨g, 0, none⟩))) = W at *
  exact ⟨_, rd_resultsC a.tmps W.drew w.heap.size (w.heap.size + 1) 0 0 none _ h2 h3 (by rw [Lib.cell_of_heap (w := W.drew) s3]; rfl) (by rw [Lib.cell_of_heap (w := W.drew) s2]; rfl), g, rfl, s4, hl⟩
set_option maxHeartbeats 8000000 in
set_option maxRecDepth 4000 in
theorem cParse_f (t : List UInt8) (w : World) (X : Except (Nat × Int) (List Pth)) (HX : Hid (cxT t = X)) (hl : t.length ≤ 1099511627776) :
    Calls Tryz.prog 20 #[.string ⟨t.toArray⟩] w fun e w' => PrQ w X e w' := by
  have hmf : ∀ (fn : Fn) (first cap : Array Value) (w : World), (Instr.makeFunc fn first cap).run Tryz.prog w = .ok (.func fn first cap) w := fun _ _ _ _ => rfl
  have HX2 := HX.out
  unfold cxT at HX2
  clear HX
  by_cases hlong : 1048576 < t.length
  · rw [if_pos hlong] at HX2
    have hXe := HX2.symm
    subst hXe
    clear HX2
    have hbig : (1048576 : Int) < (t.length : Int) := by omega
    go_enter_defers Tryz.func20, Tryz.ntmps20
    have z1 : (w.alloc (.cells #[.slice none 0 0] 48)).heap.size = w.heap.size + 1 := by simp
    have z2 : ((w.alloc (.cells #[.slice none 0 0] 48)).alloc (.cells #[.iface 86 (.pointer (some ⟨w.heap.size + 1 + 1, 0, none⟩))] 36)).heap.size = w.heap.size + 1 + 1 := by simp
    have a1 := heap_alloc_new w (.cells #[.slice none 0 0] 48)
    have a2 := heap_alloc_new (w.alloc (.cells #[.slice none 0 0] 48)) (.cells #[.iface 86 (.pointer (some ⟨w.heap.size + 1 + 1, 0, none⟩))] 36)
    have a3 := heap_alloc_new ((w.alloc (.cells #[.slice none 0 0] 48)).alloc (.cells #[.iface 86 (.pointer (some ⟨w.heap.size + 1 + 1, 0, none⟩))] 36)) (fltO 0 9)
    rw [z1] at a2
    rw [z2] at a3
    have b1 := (Lib.alloc_old _ (fltO 0 9) _ (by rw [z2]; omega)).trans ((Lib.alloc_old _ (.cells #[.iface 86 (.pointer (some ⟨w.heap.size + 1 + 1, 0, none⟩))] 36) _ (by rw [z1]; omega)).trans a1)
    have b2 := (Lib.alloc_old _ (fltO 0 9) _ (by rw [z2]; omega)).trans a2
    have hlow : Below w.heap.size w (((w.alloc (.cells #[.slice none 0 0] 48)).alloc (.cells #[.iface 86 (.pointer (some ⟨w.heap.size + 1 + 1, 0, none⟩))] 36)).alloc (fltO 0 9)) := (((Below.refl _ w).alloc (Nat.le_refl _) _).alloc (by rw [z1]; omega) _).alloc (by rw [z2]; omega) _
    have HA : Hid ((((w.alloc (.cells #[.slice none 0 0] 48)).alloc (.cells #[.iface 86 (.pointer (some ⟨w.heap.size + 1 + 1, 0, none⟩))] 36)).alloc (fltO 0 9)).cell? ⟨w.heap.size, 0, none⟩ = some (.slice none 0 0) ∧ (((w.alloc (.cells #[.slice none 0 0] 48)).alloc (.cells #[.iface 86 (.pointer (some ⟨w.heap.size + 1 + 1, 0, none⟩))] 36)).alloc (fltO 0 9)).cell? ⟨w.heap.size + 1, 0, none⟩ = some (.iface 86 (.pointer (some ⟨w.heap.size + 1 + 1, 0, none⟩)))) := ⟨by rw [Lib.cell_of_heap b1]; rfl, by rw [Lib.cell_of_heap b2]; rfl⟩
    have HB : Hid ((((w.alloc (.cells #[.slice none 0 0] 48)).alloc (.cells #[.iface 86 (.pointer (some ⟨w.heap.size + 1 + 1, 0, none⟩))] 36)).alloc (fltO 0 9)).heap[w.heap.size + 1 + 1]? = some (fltO 0 9)) := a3
    clear a1 a2 a3 b1 b2 z1 z2
    go_wp2
    exact ⟨_, rd_resultsC _ _ w.heap.size (w.heap.size + 1) 0 0 none (.iface 86 (.pointer (some ⟨w.heap.size + 1 + 1, 0, none⟩))) rfl rfl HA.out.1 HA.out.2, w.heap.size + 1 + 1, rfl, HB.out, hlow⟩
  · rw [if_neg hlong] at HX2
    obtain ⟨L, hL⟩ : ∃ L, splitL t = L := ⟨_, rfl⟩
    rw [hL] at HX2
    have hshort : ¬ (1048576 : Int) < (t.length : Int) := by omega
    obtain ⟨Pn, hPnd⟩ : ∃ Pn, PnP w X = Pn := ⟨_, rfl⟩
    have HPn : Hid (∀ c (a : Act) u, Pn c u → a.tmps.getD 2 undef = .pointer (some ⟨w.heap.size, 0, none⟩) → a.tmps.getD 3 undef = .pointer (some ⟨w.heap.size + 1, 0, none⟩) → a.defers = [{ target := .fn (.func 50) #[.pointer (some ⟨w.heap.size, 0, none⟩), .pointer (some ⟨w.heap.size + 1, 0, none⟩)], args := #[] }] → bodyPostD Tryz.prog Tryz.f20 (fun e w' => PrQ w X e w') (.panic c) a u) := (by rw [← hPnd]; exact pnp_done)
    have HPd : Hid (PnP w X = Pn) := hPnd
    clear hPnd
    have hs := fun u => nSplit_f t u hl
    rw [hL] at hs
    have HPl : Hid (Plain L) := (by rw [← hL]; exact split_plain t)
    have HSl : Hid (∀ s ∈ L, s.length ≤ 1099511627776) := (by
      intro s hs
      rw [← hL] at hs
      have := split_shortC (M := 1048576) (t := t) (by omega) s hs
      omega)
    have hLl : L.length ≤ 137438953472 := (by
      rw [← hL]
      have := split_len t
      omega)
    clear hL
    go_enter_defers Tryz.func20, Tryz.ntmps20
    go_wp2_with fail
    refine (hs _).mono ?_
    rintro e w1 ⟨vL, rfl, hown, hB1⟩
    obtain ⟨lo, lc, rfl⟩ := (holds_of hown).form
    obtain ⟨wA, hwA⟩ : ∃ u, (w.alloc (.cells #[.slice none 0 0] 48)).alloc (.cells #[.nilIface] 36) = u := ⟨_, rfl⟩
    have a1 := heap_alloc_new w (.cells #[.slice none 0 0] 48)
    have a2 := heap_alloc_new (w.alloc (.cells #[.slice none 0 0] 48)) (.cells #[.nilIface] 36)
    have z1 : (w.alloc (.cells #[.slice none 0 0] 48)).heap.size = w.heap.size + 1 := by simp
    have z2 : wA.heap.size = w.heap.size + 1 + 1 := (by rw [← hwA]; simp)
    rw [z1] at a2
    have a3 := (Lib.alloc_old (w.alloc (.cells #[.slice none 0 0] 48)) (.cells #[.nilIface] 36) w.heap.size (by rw [z1]; omega)).trans a1
    rw [hwA] at a2 a3 hown hB1
    have b1 : Below w.heap.size w wA := (by rw [← hwA]; exact ((Below.refl _ w).alloc (Nat.le_refl _) _).alloc (by rw [z1]; omega) _)
    have hR0 : RdP w w1.heap.size L (.slice lo L.length lc) (.slice none 0 0) [] 0 (w1.alloc (.cells #[.slice lo L.length lc, .int .i64 0] 105)) := (by
      have hsz := hB1.size
      have hB2 : Below w1.heap.size w1 (w1.alloc (.cells #[.slice lo L.length lc, .int .i64 0] 105)) := (Below.refl _ w1).alloc (Nat.le_refl _) _
      refine ⟨⟨(b1.trans (hB1.mono (by omega))).trans (hB2.mono (by omega)), hnil_row _ _ _ _, fun f hf => (by cases hf)⟩, ?_, ?_, heap_alloc_new _ _, by omega, owns_keep (own_base hown (by omega)) hB2⟩
      · exact (hB2.block _ (by omega)).trans ((hB1.block _ (by omega)).trans a3)
      · exact (hB2.block _ (by omega)).trans ((hB1.block _ (by omega)).trans a2))
    have HX0 : Hid (thenPs (([] : List Pfd).map (·.x)) (cxPs L.length ([] : List Pfd).length 0 (L.drop 0)) = X) := (by
      show _ = _
      rw [← HX2]
      simp only [List.map_nil, List.drop_zero, List.length_nil]
      cases cxPs L.length 0 0 L <;> rfl)
    clear HX2 hs hown hB1 hwA a1 a2 a3 b1 z1 z2
    go_wp2
    generalize w1.alloc (.cells #[.slice lo L.length lc, .int .i64 0] 105) = w2 at hR0 ⊢
    generalize w1.heap.size = R at hR0 ⊢
    go_loopw [] (fun wr => ∃ (ov : Value) (F : List Pfd) (p f : Nat), (∃ o c, ov = .slice o F.length c) ∧ RdP w R L (.slice lo L.length lc) ov F p wr ∧ p ≤ L.length ∧ F.length ≤ 64 ∧ Hid ((L.drop p).length ≤ f) ∧ Hid (thenPs (F.map (·.x)) (cxPs f F.length p (L.drop p)) = X)) (fun wr => L.length - ckN wr R)
    case atStart => exact ⟨_, [], 0, L.length, ⟨none, 0, rfl⟩, hR0, Nat.zero_le _, Nat.zero_le _, (by show _ ≤ _; simp), HX0⟩
    case round =>
    clear hR0 HX0
    obtain ⟨ov, F, p, f, ⟨o, c, rfl⟩, hR, hp, hFl, HF, HI⟩ := hrel
    obtain ⟨d0, d1⟩ := hR.ck.cells
    have HK : Hid (ckN wr R = p) := ckN_of hR.ck
    by_cases hlt : p < L.length
    · have hf := HF.out
      have hfl : 0 < f := (by rw [List.length_drop] at hf; omega)
      obtain ⟨f', rfl⟩ : ∃ f', f = f' + 1 := ⟨f - 1, by omega⟩
      have hne : L.drop p ≠ [] := (by intro h; have := congrArg List.length h; rw [List.length_drop] at this; simp at this; omega)
      have HIe : Hid (∀ e, patP F.length p (L.drop p) = .error e → X = .error e) := (by
        intro e he
        rw [← HI.out, cxPs_step, if_neg hne, he]
        rfl)
      have HN : Hid (∀ x p2 r, patP F.length p (L.drop p) = .ok (x, p2, r) → p2 ≤ L.length ∧ p < p2 ∧ Hid ((L.drop p2).length ≤ f') ∧ F.length < 64 ∧ r = L.drop p2) := (by
        intro x p2 r hk
        obtain ⟨b1, b2, b3, b4⟩ := pat_drop hk
        rw [List.length_drop] at hf
        exact ⟨b3, b2, (by show _ ≤ _; rw [List.length_drop]; omega), b4, b1⟩)
      have HN2 : Hid (∀ x p2 r v H, patP F.length p (L.drop p) = .ok (x, p2, r) → Hid (thenPs ((F ++ [(⟨x, v, H⟩ : Pfd)]).map (·.x)) (cxPs f' (F ++ [(⟨x, v, H⟩ : Pfd)]).length p2 (L.drop p2)) = X)) := (by
        intro x p2 r v H hk
        show _ = _
        have hr := (HN.out x p2 r hk).2.2.2.2
        rw [← HI.out, cxPs_step, if_neg hne, hk]
        dsimp only
        rw [hr, List.length_append, List.map_append]
        show thenPs (F.map (·.x) ++ [x]) (cxPs f' (F.length + 1) p2 (L.drop p2)) = _
        cases cxPs f' (F.length + 1) p2 (L.drop p2) with
        | error e => rfl
        | ok m => simp [thenPs])
      have hRd := hR.keep (Below.drew (Below.refl _ _))
      obtain ⟨Rr, hRr⟩ : ∃ Rr : Value → World → Prop, (fun v u => ∃ x p2 r vo vc H, patP F.length p (L.drop p) = .ok (x, p2, r) ∧ v = .agg #[.string ⟨x.old.toArray⟩, .string ⟨x.new.toArray⟩, .slice vo H.length vc] ∧ RdP w R L (.slice lo L.length lc) (.slice o F.length c) F p2 u ∧ Pown w.heap.size u ⟨x, .slice vo H.length vc, H⟩) = Rr := ⟨_, rfl⟩
      have hcall : Calls Tryz.prog 51 (#[.pointer (some ⟨R, 0, none⟩), .int .i64 (F.length : Int)] ++ #[]) wr.drew fun e w' => (∃ v, e = .returned v ∧ True ∧ Rr v w') ∨ (∃ c, e = .panicked c ∧ Pn c w') := (by
        obtain ⟨Y, hY⟩ : ∃ Y, patP F.length p (L.drop p) = Y := ⟨_, rfl⟩
        have hsz := hRd.pw.low.size
        have hrl := hRd.rl
        refine (cpatch_f hFl wr.drew hRd.ck (fun u hu => hRd.lines hu) HPl hp hLl HSl Y hY).mono ?_
        intro e w' hq
        cases Y with
        | error z =>
          obtain ⟨a, z⟩ := z
          obtain ⟨⟨g, rfl, hg⟩, hgr⟩ := hq
          right
          refine ⟨_, rfl, ?_⟩
          rw [← HPd.out]
          have hk : ∀ k x, k ≠ R → wr.drew.heap[k]? = some x → w'.heap[k]? = some x := fun k _ hk hx => (hgr.block k (Array.getElem?_eq_some_iff.1 hx).1 (fun e => hk (Option.some.inj e))).trans hx
          exact ⟨g, a, z, _, rfl, hg, HIe.out _ hY, hRd.pw.low.grown hgr hsz (fun k e => by cases e; omega), hk _ _ (by omega) hRd.f0, hk _ _ (by omega) hRd.f1⟩
        | ok z =>
          obtain ⟨x, p2, r⟩ := z
          obtain ⟨hv, H, rfl, hxe, hown, hins, q, hgr⟩ := hq
          obtain ⟨vo, vc, rfl⟩ := (holds_of hown).form
          left
          rw [← hRr]
          exact ⟨_, rfl, trivial, x, p2, r, vo, vc, H, hY, rfl, hRd.call hgr q, ⟨hxe, own_base hown hsz, fun y hy => own_base (hins y hy) hsz⟩⟩)
      have i1 : (p : Int) < (L.length : Int) := by omega
      have HRr : Hid (_ = Rr) := hRr
      clear hRr HI
      go_upto_region 6 with fail
      refine wp_region_panC Pn (.pointer (some ⟨w.heap.size, 0, none⟩)) (.pointer (some ⟨w.heap.size + 1, 0, none⟩)) [{ target := .fn (.func 50) #[.pointer (some ⟨w.heap.size, 0, none⟩), .pointer (some ⟨w.heap.size + 1, 0, none⟩)], args := #[] }] (fun c a u h1 h2 h3 h4 => HPn.out c a u h1 h2 h3 h4) ?_
      refine wp_region_held_drew (S := fun _ => True) (by kernel_rfl) trivial (fun _ => ?_)
      generalize wr.drew = wd at hRd hcall ⊢
      have c0d := hRd.c0
      refine go_two 0 22 _ 1 23 _ rfl (by kernel_rfl) rfl (by kernel_rfl) (by kernel_rfl) (by kernel_rfl) (by kernel_rfl) (.slice o F.length c) wd (load_pxs c0d (.tmp 2) (by kernel_rfl) (by kernel_rfl)) trivial (.slice o F.length c) wd (load_pxs c0d (.tmp 2) (by kernel_rfl) (by kernel_rfl)) trivial ?_ ?_
      · simp only [Act.put, List.setIfInBounds_toArray, List.set_cons_zero, List.set_cons_succ]
        refine go_val 1 23 _ rfl (by kernel_rfl) (by kernel_rfl) (by kernel_rfl) (.slice o F.length c) wd (load_pxs c0d (.tmp 2) (by kernel_rfl) (by kernel_rfl)) trivial ?_
        simp only [Act.put, List.setIfInBounds_toArray, List.set_cons_zero, List.set_cons_succ]
        refine go_take 2 24 _ (.int .i64 (F.length : Int)) rfl (by kernel_rfl) (by kernel_rfl) (by kernel_rfl) (by kernel_rfl) (panC_put (by decide) (by decide)) (Or.inl ⟨by kernel_rfl, fun u hu => by kernel_rfl⟩) trivial ?_
        simp only [Act.put, List.setIfInBounds_toArray, List.set_cons_zero, List.set_cons_succ]
        refine go_callR 3 25 _ rfl (by kernel_rfl) (by kernel_rfl) (by kernel_rfl) 51 (.func 51) #[.tmp 4, .tmp 24] #[105, 3] (by kernel_rfl) #[] (by kernel_rfl) #[.pointer (some ⟨R, 0, none⟩), .int .i64 (F.length : Int)] (by kernel_rfl) (enters_of Tryz.func51 (by kernel_rfl) rfl) Rr Pn (fun c u h => ⟨h, rfl, rfl, rfl⟩) ?_ ?_
        · exact hcall
        intro v0 u1 _ hq
        rw [← HRr.out] at hq
        obtain ⟨x, p2, r, vo, vc, H, hk2, rfl, hR1, hown1⟩ := hq
        have c1u := hR1.c0
        have hRA := hR1.keep ((Below.refl _ u1).alloc (Nat.le_refl _) (pxO ⟨x, .slice vo H.length vc, H⟩))
        have c2u := hRA.c0
        simp only [Act.put, List.setIfInBounds_toArray, List.set_cons_zero, List.set_cons_succ]
        refine go_val 4 26 _ rfl (by kernel_rfl) (by kernel_rfl) (by kernel_rfl) (.slice (some ⟨u1.heap.size, 0, none⟩) 1 1) (u1.alloc (pxO ⟨x, .slice vo H.length vc, H⟩)) (by kernel_rfl) trivial ?_
        simp only [Act.put, List.setIfInBounds_toArray, List.set_cons_zero, List.set_cons_succ]
        have hlt2 := HN.out x p2 r hk2
        have hownA := hown1.keep ((Below.refl _ u1).alloc (Nat.le_refl _) (pxO ⟨x, .slice vo H.length vc, H⟩))
        obtain ⟨v3, u3, hr3, hown3, hg3, _⟩ := run_append_w (u1.alloc (pxO ⟨x, .slice vo H.length vc, H⟩)) 48 55 48 (.agg #[.string ⟨#[]⟩, .string ⟨#[]⟩, .slice none 0 0]) 3 56 Tryz.underlying48 infoPx rfl (by decide) (by decide) w.heap.size _ _ _ hRA.pw.own _ 1 (pxC ⟨x, .slice vo H.length vc, H⟩) (one_px u1 ⟨x, .slice vo H.length vc, H⟩) rfl (fun u hu => by simp [pxC] at hu; rcases hu with rfl | rfl | rfl <;> rfl) (by omega) hRA.pw.low.size
        have hR3 := hRA.more hownA hg3 hown3
        obtain ⟨o3, k3, rfl⟩ := (holds_of hown3).form
        refine go_val 5 27 _ rfl (by kernel_rfl) (by kernel_rfl) (by kernel_rfl) (.slice o3 (F.length + 1) k3) u3 (exec_app (.tmp 22) (.tmp 26) (by kernel_rfl) (by kernel_rfl) (by kernel_rfl) hr3) trivial ?_
        simp only [Act.put, List.setIfInBounds_toArray, List.set_cons_zero, List.set_cons_succ]
        refine go_skip 6 _ rfl (by kernel_rfl) (by kernel_rfl) (by kernel_rfl) (u3.setCell ⟨w.heap.size, 0, none⟩ (.slice o3 (F.length + 1) k3)) (exec_storePx hR3.2.1 hR3.2.2 (.tmp 2) (.tmp 27) (by kernel_rfl) (by kernel_rfl) (by kernel_rfl)) trivial ?_
        refine wpAnyH_done (by kernel_rfl) ?_ _
        refine PanC.normal ?_
        have hR4 := hR3.1
        go_wp2
        refine ⟨⟨_, F ++ [⟨x, .slice vo H.length vc, H⟩], p2, f', ⟨o3, k3, by rw [List.length_append]; rfl⟩, hR4, hlt2.1, by rw [List.length_append]; simp; omega, hlt2.2.2.1, HN2.out x p2 r _ _ hk2⟩, ?_⟩
        rw [ckN_of hR4.ck, HK.out]
        omega

      · simp only [Act.put, List.setIfInBounds_toArray, List.set_cons_zero, List.set_cons_succ]
        refine go_take 2 24 _ (.int .i64 (F.length : Int)) rfl (by kernel_rfl) (by kernel_rfl) (by kernel_rfl) (by kernel_rfl) (panC_put (by decide) (by decide)) (Or.inl ⟨by kernel_rfl, fun u hu => by kernel_rfl⟩) trivial ?_
        simp only [Act.put, List.setIfInBounds_toArray, List.set_cons_zero, List.set_cons_succ]
        refine go_valCallR 0 22 _ 3 25 _ rfl (by kernel_rfl) rfl (by kernel_rfl) (by kernel_rfl) (by kernel_rfl) (by kernel_rfl) (.slice o F.length c) wd (load_pxs c0d (.tmp 2) (by kernel_rfl) (by kernel_rfl)) trivial 51 (.func 51) #[.tmp 4, .tmp 24] #[105, 3] (by kernel_rfl) #[] (by kernel_rfl) #[.pointer (some ⟨R, 0, none⟩), .int .i64 (F.length : Int)] (by kernel_rfl) (enters_of Tryz.func51 (by kernel_rfl) rfl) Rr Pn (fun c u h => ⟨h, rfl, rfl, rfl⟩) ?_ ?_ ?_
        · exact hcall
        · simp only [Act.put, List.setIfInBounds_toArray, List.set_cons_zero, List.set_cons_succ]
          refine go_callR 3 25 _ rfl (by kernel_rfl) (by kernel_rfl) (by kernel_rfl) 51 (.func 51) #[.tmp 4, .tmp 24] #[105, 3] (by kernel_rfl) #[] (by kernel_rfl) #[.pointer (some ⟨R, 0, none⟩), .int .i64 (F.length : Int)] (by kernel_rfl) (enters_of Tryz.func51 (by kernel_rfl) rfl) Rr Pn (fun c u h => ⟨h, rfl, rfl, rfl⟩) ?_ ?_
          · exact hcall
          intro v0 u1 _ hq
          rw [← HRr.out] at hq
          obtain ⟨x, p2, r, vo, vc, H, hk2, rfl, hR1, hown1⟩ := hq
          have c1u := hR1.c0
          have hRA := hR1.keep ((Below.refl _ u1).alloc (Nat.le_refl _) (pxO ⟨x, .slice vo H.length vc, H⟩))
          have c2u := hRA.c0
          simp only [Act.put, List.setIfInBounds_toArray, List.set_cons_zero, List.set_cons_succ]
          refine go_val 4 26 _ rfl (by kernel_rfl) (by kernel_rfl) (by kernel_rfl) (.slice (some ⟨u1.heap.size, 0, none⟩) 1 1) (u1.alloc (pxO ⟨x, .slice vo H.length vc, H⟩)) (by kernel_rfl) trivial ?_
          simp only [Act.put, List.setIfInBounds_toArray, List.set_cons_zero, List.set_cons_succ]
          have hlt2 := HN.out x p2 r hk2
          have hownA := hown1.keep ((Below.refl _ u1).alloc (Nat.le_refl _) (pxO ⟨x, .slice vo H.length vc, H⟩))
          obtain ⟨v3, u3, hr3, hown3, hg3, _⟩ := run_append_w (u1.alloc (pxO ⟨x, .slice vo H.length vc, H⟩)) 48 55 48 (.agg #[.string ⟨#[]⟩, .string ⟨#[]⟩, .slice none 0 0]) 3 56 Tryz.underlying48 infoPx rfl (by decide) (by decide) w.heap.size _ _ _ hRA.pw.own _ 1 (pxC ⟨x, .slice vo H.length vc, H⟩) (one_px u1 ⟨x, .slice vo H.length vc, H⟩) rfl (fun u hu => by simp [pxC] at hu; rcases hu with rfl | rfl | rfl <;> rfl) (by omega) hRA.pw.low.size
          have hR3 := hRA.more hownA hg3 hown3
          obtain ⟨o3, k3, rfl⟩ := (holds_of hown3).form
          refine go_val 5 27 _ rfl (by kernel_rfl) (by kernel_rfl) (by kernel_rfl) (.slice o3 (F.length + 1) k3) u3 (exec_app (.tmp 22) (.tmp 26) (by kernel_rfl) (by kernel_rfl) (by kernel_rfl) hr3) trivial ?_
          simp only [Act.put, List.setIfInBounds_toArray, List.set_cons_zero, List.set_cons_succ]
          refine go_skip 6 _ rfl (by kernel_rfl) (by kernel_rfl) (by kernel_rfl) (u3.setCell ⟨w.heap.size, 0, none⟩ (.slice o3 (F.length + 1) k3)) (exec_storePx hR3.2.1 hR3.2.2 (.tmp 2) (.tmp 27) (by kernel_rfl) (by kernel_rfl) (by kernel_rfl)) trivial ?_
          refine wpAnyH_done (by kernel_rfl) ?_ _
          refine PanC.normal ?_
          have hR4 := hR3.1
          go_wp2
          refine ⟨⟨_, F ++ [⟨x, .slice vo H.length vc, H⟩], p2, f', ⟨o3, k3, by rw [List.length_append]; rfl⟩, hR4, hlt2.1, by rw [List.length_append]; simp; omega, hlt2.2.2.1, HN2.out x p2 r _ _ hk2⟩, ?_⟩
          rw [ckN_of hR4.ck, HK.out]
          omega

        · intro v0 u1 _ hq
          rw [← HRr.out] at hq
          obtain ⟨x, p2, r, vo, vc, H, hk2, rfl, hR1, hown1⟩ := hq
          have c1u := hR1.c0
          have hRA := hR1.keep ((Below.refl _ u1).alloc (Nat.le_refl _) (pxO ⟨x, .slice vo H.length vc, H⟩))
          have c2u := hRA.c0
          simp only [Act.put, List.setIfInBounds_toArray, List.set_cons_zero, List.set_cons_succ]
          refine go_two 0 22 _ 4 26 _ rfl (by kernel_rfl) rfl (by kernel_rfl) (by kernel_rfl) (by kernel_rfl) (by kernel_rfl) (.slice o F.length c) u1 (load_pxs c1u (.tmp 2) (by kernel_rfl) (by kernel_rfl)) trivial (.slice (some ⟨u1.heap.size, 0, none⟩) 1 1) (u1.alloc (pxO ⟨x, .slice vo H.length vc, H⟩)) (by kernel_rfl) trivial ?_ ?_
          · simp only [Act.put, List.setIfInBounds_toArray, List.set_cons_zero, List.set_cons_succ]
            refine go_val 4 26 _ rfl (by kernel_rfl) (by kernel_rfl) (by kernel_rfl) (.slice (some ⟨u1.heap.size, 0, none⟩) 1 1) (u1.alloc (pxO ⟨x, .slice vo H.length vc, H⟩)) (by kernel_rfl) trivial ?_
            simp only [Act.put, List.setIfInBounds_toArray, List.set_cons_zero, List.set_cons_succ]
            have hlt2 := HN.out x p2 r hk2
            have hownA := hown1.keep ((Below.refl _ u1).alloc (Nat.le_refl _) (pxO ⟨x, .slice vo H.length vc, H⟩))
            obtain ⟨v3, u3, hr3, hown3, hg3, _⟩ := run_append_w (u1.alloc (pxO ⟨x, .slice vo H.length vc, H⟩)) 48 55 48 (.agg #[.string ⟨#[]⟩, .string ⟨#[]⟩, .slice none 0 0]) 3 56 Tryz.underlying48 infoPx rfl (by decide) (by decide) w.heap.size _ _ _ hRA.pw.own _ 1 (pxC ⟨x, .slice vo H.length vc, H⟩) (one_px u1 ⟨x, .slice vo H.length vc, H⟩) rfl (fun u hu => by simp [pxC] at hu; rcases hu with rfl | rfl | rfl <;> rfl) (by omega) hRA.pw.low.size
            have hR3 := hRA.more hownA hg3 hown3
            obtain ⟨o3, k3, rfl⟩ := (holds_of hown3).form
            refine go_val 5 27 _ rfl (by kernel_rfl) (by kernel_rfl) (by kernel_rfl) (.slice o3 (F.length + 1) k3) u3 (exec_app (.tmp 22) (.tmp 26) (by kernel_rfl) (by kernel_rfl) (by kernel_rfl) hr3) trivial ?_
            simp only [Act.put, List.setIfInBounds_toArray, List.set_cons_zero, List.set_cons_succ]
            refine go_skip 6 _ rfl (by kernel_rfl) (by kernel_rfl) (by kernel_rfl) (u3.setCell ⟨w.heap.size, 0, none⟩ (.slice o3 (F.length + 1) k3)) (exec_storePx hR3.2.1 hR3.2.2 (.tmp 2) (.tmp 27) (by kernel_rfl) (by kernel_rfl) (by kernel_rfl)) trivial ?_
            refine wpAnyH_done (by kernel_rfl) ?_ _
            refine PanC.normal ?_
            have hR4 := hR3.1
            go_wp2
            refine ⟨⟨_, F ++ [⟨x, .slice vo H.length vc, H⟩], p2, f', ⟨o3, k3, by rw [List.length_append]; rfl⟩, hR4, hlt2.1, by rw [List.length_append]; simp; omega, hlt2.2.2.1, HN2.out x p2 r _ _ hk2⟩, ?_⟩
            rw [ckN_of hR4.ck, HK.out]
            omega

          · simp only [Act.put, List.setIfInBounds_toArray, List.set_cons_zero, List.set_cons_succ]
            refine go_val 0 22 _ rfl (by kernel_rfl) (by kernel_rfl) (by kernel_rfl) (.slice o F.length c) (u1.alloc (pxO ⟨x, .slice vo H.length vc, H⟩)) (load_pxs c2u (.tmp 2) (by kernel_rfl) (by kernel_rfl)) trivial ?_
            simp only [Act.put, List.setIfInBounds_toArray, List.set_cons_zero, List.set_cons_succ]
            have hlt2 := HN.out x p2 r hk2
            have hownA := hown1.keep ((Below.refl _ u1).alloc (Nat.le_refl _) (pxO ⟨x, .slice vo H.length vc, H⟩))
            obtain ⟨v3, u3, hr3, hown3, hg3, _⟩ := run_append_w (u1.alloc (pxO ⟨x, .slice vo H.length vc, H⟩)) 48 55 48 (.agg #[.string ⟨#[]⟩, .string ⟨#[]⟩, .slice none 0 0]) 3 56 Tryz.underlying48 infoPx rfl (by decide) (by decide) w.heap.size _ _ _ hRA.pw.own _ 1 (pxC ⟨x, .slice vo H.length vc, H⟩) (one_px u1 ⟨x, .slice vo H.length vc, H⟩) rfl (fun u hu => by simp [pxC] at hu; rcases hu with rfl | rfl | rfl <;> rfl) (by omega) hRA.pw.low.size
            have hR3 := hRA.more hownA hg3 hown3
            obtain ⟨o3, k3, rfl⟩ := (holds_of hown3).form
            refine go_val 5 27 _ rfl (by kernel_rfl) (by kernel_rfl) (by kernel_rfl) (.slice o3 (F.length + 1) k3) u3 (exec_app (.tmp 22) (.tmp 26) (by kernel_rfl) (by kernel_rfl) (by kernel_rfl) hr3) trivial ?_
            simp only [Act.put, List.setIfInBounds_toArray, List.set_cons_zero, List.set_cons_succ]
            refine go_skip 6 _ rfl (by kernel_rfl) (by kernel_rfl) (by kernel_rfl) (u3.setCell ⟨w.heap.size, 0, none⟩ (.slice o3 (F.length + 1) k3)) (exec_storePx hR3.2.1 hR3.2.2 (.tmp 2) (.tmp 27) (by kernel_rfl) (by kernel_rfl) (by kernel_rfl)) trivial ?_
            refine wpAnyH_done (by kernel_rfl) ?_ _
            refine PanC.normal ?_
            have hR4 := hR3.1
            go_wp2
            refine ⟨⟨_, F ++ [⟨x, .slice vo H.length vc, H⟩], p2, f', ⟨o3, k3, by rw [List.length_append]; rfl⟩, hR4, hlt2.1, by rw [List.length_append]; simp; omega, hlt2.2.2.1, HN2.out x p2 r _ _ hk2⟩, ?_⟩
            rw [ckN_of hR4.ck, HK.out]
            omega
    · have hend : decide ((p : Int) < (L.length : Int)) = false := decide_eq_false (by omega)
      have hXv : X = .ok (F.map (·.x)) := (by
        rw [← HI.out, List.drop_eq_nil_of_le (by omega)]
        cases f with
        | zero => simp [cxPs, thenPs]
        | succ f => simp [cxPs, thenPs])
      have c0 := hR.c0
      have c1 : wr.cell? ⟨w.heap.size + 1, 0, none⟩ = some .nilIface := by rw [Lib.cell_of_heap hR.f1]; rfl
      have z0 := Lib.frozen_of_heap hR.f0 0
      have z1 := Lib.frozen_of_heap hR.f1 0
      have g0 := grown_set wr w.heap.size 0 (.slice o F.length c)
      have s0 := heap_setCell_same wr w.heap.size 0 _ _ (.slice o F.length c) hR.f0
      have h1 : Pw w (.slice o F.length c) F (wr.setCell ⟨w.heap.size, 0, none⟩ (.slice o F.length c)) := ⟨hR.pw.low.setCell (Nat.le_refl _) _, hR.pw.own.kept g0 (.inr (own_box2 hR.pw.own hR.f0 (by decide))), fun f hf => (hR.pw.ins f hf).box hR.f0 (by decide) (by decide) g0⟩
      have t1 : (wr.setCell ⟨w.heap.size, 0, none⟩ (.slice o F.length c)).heap[w.heap.size + 1]? = some (.cells #[.nilIface] 36) := (Below.heap_setCell _ _ _ _ (by simp)).trans hR.f1
      have g1 := grown_set (wr.setCell ⟨w.heap.size, 0, none⟩ (.slice o F.length c)) (w.heap.size + 1) 0 .nilIface
      have s1 := heap_setCell_same _ (w.heap.size + 1) 0 _ _ .nilIface t1
      have s2 : ((wr.setCell ⟨w.heap.size, 0, none⟩ (.slice o F.length c)).setCell ⟨w.heap.size + 1, 0, none⟩ .nilIface).heap[w.heap.size]? = _ := (Below.heap_setCell _ _ _ _ (by simp)).trans s0
      have h2 : Pw w (.slice o F.length c) F ((wr.setCell ⟨w.heap.size, 0, none⟩ (.slice o F.length c)).setCell ⟨w.heap.size + 1, 0, none⟩ .nilIface) := ⟨h1.low.setCell (by show w.heap.size ≤ w.heap.size + 1; omega) _, h1.own.kept g1 (.inr (own_box2 h1.own t1 (by decide))), fun f hf => (h1.ins f hf).box t1 (by decide) (by decide) g1⟩
      have c1' : (wr.setCell ⟨w.heap.size, 0, none⟩ (.slice o F.length c)).cell? ⟨w.heap.size + 1, 0, none⟩ = some .nilIface := by rw [Lib.cell_of_heap t1]; rfl
      have z1' := Lib.frozen_of_heap t1 0
      have e0 : ((wr.setCell ⟨w.heap.size, 0, none⟩ (.slice o F.length c)).setCell ⟨w.heap.size + 1, 0, none⟩ .nilIface).cell? ⟨w.heap.size, 0, none⟩ = some (.slice o F.length c) := by rw [Lib.cell_of_heap s2]; rfl
      have e1 : ((wr.setCell ⟨w.heap.size, 0, none⟩ (.slice o F.length c)).setCell ⟨w.heap.size + 1, 0, none⟩ .nilIface).cell? ⟨w.heap.size + 1, 0, none⟩ = some .nilIface := by rw [Lib.cell_of_heap s1]; rfl
      subst hXv
      clear HI HPn HPd hR h1 g0 g1 s0 s1 s2 t1
      go_wp2
      refine leaves_cons (f := 50) (args := #[.pointer (some ⟨w.heap.size, 0, none⟩), .pointer (some ⟨w.heap.size + 1, 0, none⟩)]) (by simp) (by simp [go_sem]) ?_
      refine (catch_idleC _ _ _).mono ?_
      rintro e u' w'' ⟨rfl, rfl, rfl⟩
      exact ⟨_, rd_resultsC _ _ w.heap.size (w.heap.size + 1) F.length c o .nilIface rfl rfl e0 e1, _, F, rfl, h2, rfl⟩
end Go.Proofs.YtgiojkhmkeocfaaGreatDoor

/- The reference's Same of layer 11, walked for any two hunks. -/
set_option maxRecDepth 20000
namespace Go.Proofs.YtgiojkhmkeocfaaGreatDoor
open Go.RowKit

/-- rows of hunks that are few enough -/
def HOw (p : List (Hk × Value)) : Prop := p.length ≤ 1099511627776 ∧ ∀ x ∈ p, x.1.ls.length ≤ 1099511627776
theorem hk_ext {A1 N1 B1 M1 A2 N2 B2 M2 : Int} {l1 l2 : List Mk} : (⟨A1, N1, B1, M1, l1⟩ : Hk) = ⟨A2, N2, B2, M2, l2⟩ ↔ A1 = A2 ∧ N1 = N2 ∧ B1 = B2 ∧ M1 = M2 ∧ l1 = l2 := by
  constructor
  · rintro h
    cases h
    exact ⟨rfl, rfl, rfl, rfl, rfl⟩
  · rintro ⟨rfl, rfl, rfl, rfl, rfl⟩
    rfl
set_option maxHeartbeats 8000000 in
theorem rSameG_f (h1 h2 : Hk) (v1 v2 : Value) (w : World) (hv1 : HMk w v1 h1.ls) (hv2 : HMk w v2 h2.ls) (hl1 : h1.ls.length ≤ 1099511627776) (r : Bool) (HR : Hid (r = true ↔ h1 = h2)) : Calls Tryz.prog 46 #[hkV h1 v1, hkV h2 v2] w fun e w' => e = .returned (.bool r) ∧ Below w.heap.size w w' := by
  obtain ⟨A1, N1, B1, M1, l1⟩ := h1
  obtain ⟨A2, N2, B2, M2, l2⟩ := h2
  dsimp only at hv1 hv2 hl1
  obtain ⟨o1, c1, rfl⟩ := HMk.form hv1
  obtain ⟨o2, c2, rfl⟩ := HMk.form hv2
  have hx1 := Hx.new w ⟨A1, N1, B1, M1, l1⟩ (.slice o1 l1.length c1)
  have hB1 : Below w.heap.size w (w.alloc (hkO ⟨A1, N1, B1, M1, l1⟩ (.slice o1 l1.length c1))) := (Below.refl _ w).alloc (Nat.le_refl _) _
  have hx2 : Hx ((w.alloc (hkO ⟨A1, N1, B1, M1, l1⟩ (.slice o1 l1.length c1))).alloc (hkO ⟨A2, N2, B2, M2, l2⟩ (.slice o2 l2.length c2))) (w.heap.size + 1) ⟨A2, N2, B2, M2, l2⟩ (.slice o2 l2.length c2) := alloc_second w _ _
  have hB2 : Below w.heap.size w ((w.alloc (hkO ⟨A1, N1, B1, M1, l1⟩ (.slice o1 l1.length c1))).alloc (hkO ⟨A2, N2, B2, M2, l2⟩ (.slice o2 l2.length c2))) := hB1.alloc (by simp) _
  have hx1' := hx1.low ((Below.refl _ (w.alloc (hkO ⟨A1, N1, B1, M1, l1⟩ (.slice o1 l1.length c1)))).alloc (Nat.le_refl _) (hkO ⟨A2, N2, B2, M2, l2⟩ (.slice o2 l2.length c2)))
  have hm1 := HMk.keep hv1 hB2 (Nat.le_refl _)
  have hm2 := HMk.keep hv2 hB2 (Nat.le_refl _)
  obtain ⟨x0, x1, x2, x3, x4⟩ := hx1'.cells
  obtain ⟨y0, y1, y2, y3, y4⟩ := hx2.cells
  unfold hkV
  dsimp only at x0 x1 x2 x3 x4 y0 y1 y2 y3 y4 ⊢
  have hW0 : (w.alloc (hkO ⟨A1, N1, B1, M1, l1⟩ (.slice o1 l1.length c1))).alloc (hkO ⟨A2, N2, B2, M2, l2⟩ (.slice o2 l2.length c2)) = (w.alloc (Obj.cells #[Value.int IntKind.i64 A1, Value.int IntKind.i64 N1, Value.int IntKind.i64 B1, Value.int IntKind.i64 M1, .slice o1 l1.length c1] 59)).alloc (Obj.cells #[Value.int IntKind.i64 A2, Value.int IntKind.i64 N2, Value.int IntKind.i64 B2, Value.int IntKind.i64 M2, .slice o2 l2.length c2] 59) := rfl
  clear hx1 hx2 hx1' hB1 hv1 hv2
  generalize (w.alloc (hkO ⟨A1, N1, B1, M1, l1⟩ (.slice o1 l1.length c1))).alloc (hkO ⟨A2, N2, B2, M2, l2⟩ (.slice o2 l2.length c2)) = W at *
  have hW := hW0.symm
  clear hW0
  have HN : Hid (¬ (A1 = A2 ∧ N1 = N2 ∧ B1 = B2 ∧ M1 = M2 ∧ l1.length = l2.length) → r = false) := (by
    intro h
    cases hr : r with
    | false => rfl
    | true => exact absurd (hk_ext.1 (HR.out.1 hr)) (fun e => h ⟨e.1, e.2.1, e.2.2.1, e.2.2.2.1, congrArg List.length e.2.2.2.2⟩))
  have HR2 : Hid (A1 = A2 ∧ N1 = N2 ∧ B1 = B2 ∧ M1 = M2 → (r = true ↔ l1 = l2)) := (by
    rintro ⟨rfl, rfl, rfl, rfl⟩
    rw [HR.out, hk_ext]
    simp)
  clear HR
  go_enter Tryz.func46, Tryz.ntmps46
  by_cases hA : A1 = A2
  · by_cases hN : N1 = N2
    · by_cases hB : B1 = B2
      · by_cases hM : M1 = M2
        · have HR3 : Hid (r = true ↔ l1 = l2) := HR2.out ⟨hA, hN, hB, hM⟩
          clear HR2
          subst hA hN hB hM
          by_cases hL : l1.length = l2.length
          · rw [← hL] at y4 hm2 hW ⊢
            have HL : Hid (l1.length = l2.length) := hL
            clear hL HN
            go_wp2
            clear hW
            go_loopw [5] (fun iv wr => ∃ k m : Nat, k ≤ l1.length ∧ iv = .int .i64 (k : Int) ∧ wr = W.drewN m ∧ Hid (r = true ↔ l1.drop k = l2.drop k)) (fun iv _ => l1.length - (intOf iv).toNat)
            case atStart => exact ⟨0, 0, Nat.zero_le _, by go_num, rfl, HR3⟩
            case round =>
              clear HR3
              obtain ⟨k, m, hk, rfl, rfl, HD⟩ := hrel
              have x4' : (W.drewN m).cell? ⟨w.heap.size, 4, none⟩ = some (.slice o1 l1.length c1) := x4
              have y4' : (W.drewN m).cell? ⟨w.heap.size + 1, 4, none⟩ = some (.slice o2 l1.length c2) := y4
              by_cases hlt : k < l1.length
              · have hlt2 : k < l2.length := by have := HL.out; omega
                obtain ⟨b1, f1, rfl, _, hc1⟩ := HMk.at hm1 (by omega)
                obtain ⟨b2, f2, rfl, _, hc2⟩ := HMk.at hm2 (by omega)
                obtain ⟨s0, s1⟩ := hc1 k hlt
                obtain ⟨t0, t1⟩ := hc2 k hlt2
                have hD := HD.out
                rw [List.drop_eq_getElem_cons hlt, List.drop_eq_getElem_cons hlt2, List.cons.injEq] at hD
                obtain ⟨q, hq⟩ : ∃ q, l1[k] = q := ⟨_, rfl⟩
                obtain ⟨p, hp⟩ : ∃ p, l2[k] = p := ⟨_, rfl⟩
                rw [hq] at s0 s1 hD
                rw [hp] at t0 t1 hD
                obtain ⟨sg, tx⟩ := q
                obtain ⟨sg2, tx2⟩ := p
                dsimp only at s0 s1 t0 t1
                have HD2 : Hid (r = true ↔ (⟨sg, tx⟩ : Mk) = ⟨sg2, tx2⟩ ∧ l1.drop (k + 1) = l2.drop (k + 1)) := hD
                clear hc1 hc2 hq hp hD HD
                have i1 : 0 ≤ (k : Int) := by omega
                have i2 : (k : Int) < (l1.length : Int) := by omega
                by_cases hs : sg = sg2
                · subst hs
                  by_cases ht : tx = tx2
                  · subst ht
                    have HD3 : Hid (r = true ↔ l1.drop (k + 1) = l2.drop (k + 1)) := (by show _ ↔ _; rw [HD2.out]; simp)
                    clear HD2
                    go_wp2_with fail
                    go_quiet (fail)
                    go_wp2
                    go_roundw
                    case rel => exact ⟨k + 1, _, by omega, by go_num, rfl, HD3⟩
                    case measure => simp [intOf]; omega
                  · have r0 : r = false := (by
                      cases hr : r with
                      | false => rfl
                      | true => exact absurd (HD2.out.1 hr).1 (fun e => ht (by cases e; rfl)))
                    subst r0
                    have e2 : (tx == tx2) = false := beq_eq_false_iff_ne.2 ht
                    clear HD2
                    go_wp2_with fail
                    go_quiet (fail)
                    go_wp2
                    go_ret
                    exact ⟨rfl, Below.dN (Below.dN hB2 _) _⟩
                · have r0 : r = false := (by
                    cases hr : r with
                    | false => rfl
                    | true => exact absurd (HD2.out.1 hr).1 (fun e => hs (by cases e; rfl)))
                  subst r0
                  have e1 : (sg == sg2) = false := beq_eq_false_iff_ne.2 hs
                  clear HD2
                  go_wp2_with fail
                  go_quiet (fail)
                  go_wp2
                  go_ret
                  exact ⟨rfl, Below.dN (Below.dN hB2 _) _⟩
              · have hend : decide ((k : Int) < (l1.length : Int)) = false := decide_eq_false (by omega)
                have r1 : r = true := HD.out.2 (by rw [List.drop_eq_nil_of_le (by omega), List.drop_eq_nil_of_le (by have := HL.out; omega)])
                subst r1
                go_wp2
                go_ret
                exact ⟨rfl, Below.dN hB2 _⟩
          · have r0 := HN.out (fun e => hL e.2.2.2.2)
            subst r0
            have e5 : ((l1.length : Int) == (l2.length : Int)) = false := beq_eq_false_iff_ne.2 (by omega)
            go_wp2
            go_ret
            exact ⟨rfl, hB2⟩
        · have r0 := HN.out (fun e => hM e.2.2.2.1)
          subst hA hN hB r0
          have e4 : (M1 == M2) = false := beq_eq_false_iff_ne.2 hM
          go_wp2
          go_ret
          exact ⟨rfl, hB2⟩
      · have r0 := HN.out (fun e => hB e.2.2.1)
        subst hA hN r0
        have e3 : (B1 == B2) = false := beq_eq_false_iff_ne.2 hB
        go_wp2
        go_ret
        exact ⟨rfl, hB2⟩
    · have r0 := HN.out (fun e => hN e.2.1)
      subst hA r0
      have e2 : (N1 == N2) = false := beq_eq_false_iff_ne.2 hN
      go_wp2
      go_ret
      exact ⟨rfl, hB2⟩
  · have r0 := HN.out (fun e => hA e.1)
    subst r0
    have e1 : (A1 == A2) = false := beq_eq_false_iff_ne.2 hA
    go_wp2
    go_ret
    exact ⟨rfl, hB2⟩
theorem hsameG_held {h1 h2 : Hk} {v1 v2 : Value} {W u : World} {r : Bool} (hv1 : HMk W v1 h1.ls) (hv2 : HMk W v2 h2.ls) (hl : h1.ls.length ≤ 1099511627776) (HR : Hid (r = true ↔ h1 = h2)) (hL : Low W u) : Calls Tryz.prog 46 (#[hkV h1 v1, hkV h2 v2] ++ #[]) u fun e w' => ∃ x, e = .returned x ∧ Low W w' ∧ x = .bool r := by
  refine (rSameG_f h1 h2 v1 v2 u (HMk.keep hv1 hL (Nat.le_refl _)) (HMk.keep hv2 hL (Nat.le_refl _)) hl r HR).mono ?_
  rintro e w' ⟨rfl, hB⟩
  exact ⟨_, rfl, hL.trans (hB.mono hL.size), rfl⟩
set_option maxRecDepth 10000 in
set_option maxHeartbeats 4000000 in
theorem rSameHunksG_f (p1 p2 : List (Hk × Value)) (v1 v2 : Value) (w : World) (hv1 : HHp w v1 p1) (hv2 : HHp w v2 p2) (hok : HOw p1) (r : Bool) (HR : Hid (r = true ↔ p1.map (·.1) = p2.map (·.1))) : Calls Tryz.prog 18 #[v1, v2] w fun e w' => e = .returned (.bool r) ∧ Below w.heap.size w w' := by
  obtain ⟨o1, c1, rfl⟩ := Holds.form hv1.row
  obtain ⟨o2, c2, rfl⟩ := Holds.form hv2.row
  have hpl : p1.length ≤ 1099511627776 := hok.1
  have HOK : Hid (HOw p1) := hok
  clear hok
  by_cases hl12 : p2.length = p1.length
  · have HL : Hid (p2.length = p1.length) := hl12
    rw [hl12] at hv2 ⊢
    clear hl12
    go_enter Tryz.func18, Tryz.ntmps18
    go_wp2
    go_loopw [5] (fun iv wr => ∃ k : Nat, k ≤ p1.length ∧ iv = .int .i64 (k : Int) ∧ Below w.heap.size w wr ∧ Hid (r = true ↔ (p1.map (·.1)).drop k = (p2.map (·.1)).drop k)) (fun iv _ => p1.length - (intOf iv).toNat)
    case atStart => exact ⟨0, Nat.zero_le _, by go_num, Below.refl _ _, HR⟩
    case round =>
      clear HR
      obtain ⟨k, hk, rfl, hB, HD⟩ := hrel
      by_cases hlt : k < p1.length
      · obtain ⟨b1, f1, rfl, _, _⟩ := hv1.at (by omega)
        obtain ⟨b2, f2, rfl, _, _⟩ := hv2.at (by have := HL.out; omega)
        obtain ⟨x, y, hxy⟩ : ∃ x y, p1[k] = (x, y) := ⟨_, _, rfl⟩
        obtain ⟨x', z, hxz⟩ : ∃ x z, p2[k]'(by have := HL.out; omega) = (x, z) := ⟨_, _, rfl⟩
        have hD := HD.out
        have hlt2 : k < p2.length := (by have := HL.out; omega)
        rw [List.drop_eq_getElem_cons (show k < (p1.map (·.1)).length by simpa using hlt), List.drop_eq_getElem_cons (show k < (p2.map (·.1)).length by simpa using hlt2), List.cons.injEq, List.getElem_map, List.getElem_map, hxy, hxz] at hD
        dsimp only at hD
        obtain ⟨r2, HR2⟩ : ∃ r2 : Bool, Hid (r2 = true ↔ x = x') := (by
          rcases Classical.em (x = x') with h | h
          · exact ⟨true, ⟨fun _ => h, fun _ => rfl⟩⟩
          · exact ⟨false, ⟨fun e => absurd e (by simp), fun e => absurd e h⟩⟩)
        have HD2 : Hid (r = true ↔ x = x' ∧ (p1.map (·.1)).drop (k + 1) = (p2.map (·.1)).drop (k + 1)) := hD
        clear hD HD
        obtain ⟨r1, hm1⟩ := hv1.take hB k hlt hxy
        obtain ⟨r2, hm2⟩ := hv2.take hB k (by have := HL.out; omega) hxz
        have hbd := HOK.out.2 _ (List.getElem_mem hlt)
        rw [hxy] at hbd
        dsimp only at hbd
        obtain ⟨yo, yc, rfl⟩ := hm1.form
        obtain ⟨zo, zc, rfl⟩ := hm2.form
        have hr1 : ∀ u : World, Low wr u → HkAt u b1 (f1 + k * 5) x (.slice yo x.ls.length yc) := fun u hu => HkAt.low r1 hu
        have hr2 : ∀ u : World, Low wr u → HkAt u b2 (f2 + k * 5) x' (.slice zo x'.ls.length zc) := fun u hu => HkAt.low r2 hu
        have i1 : 0 ≤ (k : Int) := by omega
        have i2 : (k : Int) < (p1.length : Int) := by omega
        clear hxy hxz r1 r2
        go_wp2_with fail
        refine wp_region_noPanic ?_
        refine wp_region_held_drew (S := fun u => Low wr u) (by kernel_rfl) (Below.dN (Below.refl _ wr) 1) (fun hHeld => ?_)
        refine go_take 0 17 _ (.slice (some ⟨b1, f1, none⟩) p1.length c1) rfl (by kernel_rfl) (by kernel_rfl) (by kernel_rfl) (by kernel_rfl) (fun _ _ _ h => h) (Or.inl ⟨by kernel_rfl, fun u hu => by kernel_rfl⟩) hHeld ?_
        simp only [Act.put, List.setIfInBounds_toArray, List.set_cons_zero, List.set_cons_succ]
        refine go_take 1 18 _ (.int .i64 (k : Int)) rfl (by kernel_rfl) (by kernel_rfl) (by kernel_rfl) (by kernel_rfl) (fun _ _ _ h => h) (Or.inl ⟨by kernel_rfl, fun u hu => by kernel_rfl⟩) hHeld ?_
        simp only [Act.put, List.setIfInBounds_toArray, List.set_cons_zero, List.set_cons_succ]
        refine go_take 2 19 _ (.pointer (some ⟨b1, f1 + k * 5, none⟩)) rfl (by kernel_rfl) (by kernel_rfl) (by kernel_rfl) (by kernel_rfl) (fun _ _ _ h => h) (Or.inl ⟨by kernel_rfl, fun u hu => exec_ixH (c := c1) hlt (.tmp 17) (.tmp 18) (by kernel_rfl) (by kernel_rfl) (by kernel_rfl)⟩) hHeld ?_
        simp only [Act.put, List.setIfInBounds_toArray, List.set_cons_zero, List.set_cons_succ]
        refine go_take 3 20 _ (hkV x (.slice yo x.ls.length yc)) rfl (by kernel_rfl) (by kernel_rfl) (by kernel_rfl) (by kernel_rfl) (fun _ _ _ h => h) (Or.inl ⟨by kernel_rfl, fun u hu => load_hkR (hr1 u hu) (.tmp 19) (by kernel_rfl) (by kernel_rfl)⟩) hHeld ?_
        simp only [Act.put, List.setIfInBounds_toArray, List.set_cons_zero, List.set_cons_succ]
        refine go_take 4 21 _ (.slice (some ⟨b2, f2, none⟩) p1.length c2) rfl (by kernel_rfl) (by kernel_rfl) (by kernel_rfl) (by kernel_rfl) (fun _ _ _ h => h) (Or.inl ⟨by kernel_rfl, fun u hu => by kernel_rfl⟩) hHeld ?_
        simp only [Act.put, List.setIfInBounds_toArray, List.set_cons_zero, List.set_cons_succ]
        refine go_take 5 22 _ (.int .i64 (k : Int)) rfl (by kernel_rfl) (by kernel_rfl) (by kernel_rfl) (by kernel_rfl) (fun _ _ _ h => h) (Or.inl ⟨by kernel_rfl, fun u hu => by kernel_rfl⟩) hHeld ?_
        simp only [Act.put, List.setIfInBounds_toArray, List.set_cons_zero, List.set_cons_succ]
        refine go_take 6 23 _ (.pointer (some ⟨b2, f2 + k * 5, none⟩)) rfl (by kernel_rfl) (by kernel_rfl) (by kernel_rfl) (by kernel_rfl) (fun _ _ _ h => h) (Or.inl ⟨by kernel_rfl, fun u hu => exec_ixH (c := c2) hlt (.tmp 21) (.tmp 22) (by kernel_rfl) (by kernel_rfl) (by kernel_rfl)⟩) hHeld ?_
        simp only [Act.put, List.setIfInBounds_toArray, List.set_cons_zero, List.set_cons_succ]
        refine go_take 7 24 _ (hkV x' (.slice zo x'.ls.length zc)) rfl (by kernel_rfl) (by kernel_rfl) (by kernel_rfl) (by kernel_rfl) (fun _ _ _ h => h) (Or.inl ⟨by kernel_rfl, fun u hu => load_hkR (hr2 u hu) (.tmp 23) (by kernel_rfl) (by kernel_rfl)⟩) hHeld ?_
        simp only [Act.put, List.setIfInBounds_toArray, List.set_cons_zero, List.set_cons_succ]
        refine go_callE 8 25 _ rfl (by kernel_rfl) (by kernel_rfl) (by kernel_rfl) 46 (.func 46) #[.tmp 20, .tmp 24] #[59, 59] (by kernel_rfl) #[] (by kernel_rfl) #[hkV x (.slice yo x.ls.length yc), hkV x' (.slice zo x'.ls.length zc)] (by kernel_rfl) (enters_of Tryz.func46 (by kernel_rfl) rfl) _ (hsameG_held hm1 hm2 hbd HR2 hHeld) ?_
        rintro _ u8 hHeld rfl
        simp only [Act.put, List.setIfInBounds_toArray, List.set_cons_zero, List.set_cons_succ]
        refine go_take 9 26 _ (.bool (!r2)) rfl (by kernel_rfl) (by kernel_rfl) (by kernel_rfl) (by kernel_rfl) (fun _ _ _ h => h) (Or.inl ⟨by kernel_rfl, fun u hu => by kernel_rfl⟩) hHeld ?_
        simp only [Act.put, List.setIfInBounds_toArray, List.set_cons_zero, List.set_cons_succ]
        refine wpAnyH_done (by kernel_rfl) ?_ _
        refine NoPanic.normal ?_
        have hB2 := hB.trans (Below.mono hHeld hB.size)
        cases hr2 : r2 with
        | true =>
          have HD3 : Hid (r = true ↔ (p1.map (·.1)).drop (k + 1) = (p2.map (·.1)).drop (k + 1)) := (by show _ ↔ _; rw [HD2.out]; simp [HR2.out.1 hr2])
          clear HD2 HR2
          subst hr2
          go_wp2
          exact ⟨⟨k + 1, by omega, by go_num, hB2, HD3⟩, by simp [intOf]; omega⟩
        | false =>
          have r0 : r = false := (by
            cases hr : r with
            | false => rfl
            | true => exact absurd (HR2.out.2 (HD2.out.1 hr).1) (by simp [hr2]))
          clear HD2 HR2
          subst hr2 r0
          go_wp2
          go_ret
          exact ⟨rfl, hB2⟩
      · have hend : decide ((k : Int) < (p1.length : Int)) = false := decide_eq_false (by omega)
        have r1 : r = true := HD.out.2 (by rw [List.drop_eq_nil_of_le (by simp; omega), List.drop_eq_nil_of_le (by have := HL.out; simp; omega)])
        subst r1
        go_wp2
        go_ret
        exact ⟨rfl, hB⟩
  · have r0 : r = false := (by
      cases hr : r with
      | false => rfl
      | true => exact absurd (by have := congrArg List.length (HR.out.1 hr); simpa using this.symm) hl12)
    subst r0
    have e1 : ((p1.length : Int) == (p2.length : Int)) = false := beq_eq_false_iff_ne.2 (by omega)
    go_enter Tryz.func18, Tryz.ntmps18
    go_wp2
    go_ret
    exact ⟨rfl, Below.refl _ _⟩
end Go.Proofs.YtgiojkhmkeocfaaGreatDoor

/- The reference's Same of patches of layer 15, walked. -/
set_option maxRecDepth 20000
namespace Go.Proofs.YtgiojkhmkeocfaaGreatDoor
open Go.RowKit

theorem pth_ext {a b c d : List UInt8} {x y : List Hk} : (⟨a, b, x⟩ : Pth) = ⟨c, d, y⟩ ↔ a = c ∧ b = d ∧ x = y := by
  constructor
  · intro h
    injection h with h1 h2 h3
    exact ⟨h1, h2, h3⟩
  · rintro ⟨rfl, rfl, rfl⟩
    rfl
set_option maxHeartbeats 4000000 in
set_option maxRecDepth 10000 in
theorem rSamePt_f (p1 p2 : Pth) (q1 q2 : List (Hk × Value)) (H1 : Hid (q1.map (·.1) = p1.hs)) (H2 : Hid (q2.map (·.1) = p2.hs)) (v1 v2 : Value) (w : World) (hv1 : HHp w v1 q1) (hv2 : HHp w v2 q2) (hok : HOw q1) (r : Bool) (HR : Hid (r = true ↔ p1 = p2)) :
    Calls Tryz.prog 58 #[ptV p1 v1, ptV p2 v2] w fun e w' => e = .returned (.bool r) ∧ Below w.heap.size w w' := by
  obtain ⟨o1, n1, s1⟩ := p1
  obtain ⟨o2, n2, s2⟩ := p2
  dsimp only at H1 H2
  obtain ⟨lo1, lc1, rfl⟩ := Holds.form hv1.row
  obtain ⟨lo2, lc2, rfl⟩ := Holds.form hv2.row
  rw [pth_ext] at HR
  have hBa : Below w.heap.size w (w.alloc (.cells #[.string ⟨o1.toArray⟩, .string ⟨n1.toArray⟩, .slice lo1 q1.length lc1] 55)) := (Below.refl _ w).alloc (Nat.le_refl _) _
  have hBb := hBa.alloc hBa.size (.cells #[.string ⟨o2.toArray⟩, .string ⟨n2.toArray⟩, .slice lo2 q2.length lc2] 55)
  have e1 : ptV ⟨o1, n1, s1⟩ (.slice lo1 q1.length lc1) = .agg #[.string ⟨o1.toArray⟩, .string ⟨n1.toArray⟩, .slice lo1 q1.length lc1] := rfl
  have e2 : ptV ⟨o2, n2, s2⟩ (.slice lo2 q2.length lc2) = .agg #[.string ⟨o2.toArray⟩, .string ⟨n2.toArray⟩, .slice lo2 q2.length lc2] := rfl
  rw [e1, e2]
  clear e1 e2
  by_cases h1 : o1 = o2
  · subst h1
    by_cases h2 : n1 = n2
    · subst h2
      have HRR : Hid (r = true ↔ q1.map (·.1) = q2.map (·.1)) := (by
        show (_ ↔ _)
        rw [H1.out, H2.out]
        have h := HR.out
        simpa using h)
      have hc := rSameHunksG_f q1 q2 _ _ _ (hv1.keep hBb (Nat.le_refl _)) (hv2.keep hBb (Nat.le_refl _)) hok r HRR
      clear HR HRR
      go_enter Tryz.func58, Tryz.ntmps58
      go_wp2_with fail
      refine hc.mono ?_
      rintro e w1 ⟨rfl, hB1⟩
      go_wp2
      go_ret
      exact ⟨rfl, hBb.trans (hB1.mono hBb.size)⟩
    · have HE : Hid (false = r) := (by
        cases r with
        | false => rfl
        | true => exact absurd (HR.out.1 rfl).2.1 h2)
      have j1 : (n1 == n2) = false := beq_eq_false_iff_ne.2 h2
      clear HR h2
      go_enter Tryz.func58, Tryz.ntmps58
      go_wp2
      go_ret
      exact ⟨by rw [← HE.out]; rfl, hBb⟩
  · have HE : Hid (false = r) := (by
      cases r with
      | false => rfl
      | true => exact absurd (HR.out.1 rfl).1 h1)
    have j1 : (o1 == o2) = false := beq_eq_false_iff_ne.2 h1
    clear HR h1
    go_enter Tryz.func58, Tryz.ntmps58
    go_wp2
    go_ret
    exact ⟨by rw [← HE.out]; rfl, hBb⟩
end Go.Proofs.YtgiojkhmkeocfaaGreatDoor

/- Rows of patches; the reference's SameAll of layer 15, walked for rows that are the same. -/
set_option maxRecDepth 20000
namespace Go.Proofs.YtgiojkhmkeocfaaGreatDoor
open Go.RowKit

/-- a row of patches -/
structure HPp (w : World) (v : Value) (F : List Pfd) : Prop where
  row : Holds w v F.length (pxcells F)
  ins : ∀ f ∈ F, f.hs.map (·.1) = f.x.hs ∧ HHp w f.v f.hs
theorem Pw.holds {w u : World} {v : Value} {F : List Pfd} (h : Pw w v F u) : HPp u v F := ⟨holds_of h.own, fun f hf => ⟨(h.ins f hf).eq.symm, holds_of (h.ins f hf).own, fun y hy => holds_of ((h.ins f hf).ins y hy)⟩⟩
theorem HPp.keep {w u : World} {v : Value} {F : List Pfd} (h : HPp w v F) (hb : Below w.heap.size w u) : HPp u v F := ⟨Holds.keep h.row fun k hk => hb.block k hk, fun f hf => ⟨(h.ins f hf).1, (h.ins f hf).2.keep hb (Nat.le_refl _)⟩⟩
theorem pxcells_length (F : List Pfd) : (pxcells F).length = F.length * 3 := by
  induction F with
  | nil => rfl
  | cons f F ih =>
    simp only [pxcells, List.flatMap_cons, List.length_append, List.length_cons] at ih ⊢
    rw [ih]
    simp [pxC]
    omega
theorem pxcells_at (F : List Pfd) : ∀ (k : Nat) (hk : k < F.length), (pxcells F)[k * 3]? = some (.string ⟨F[k].x.old.toArray⟩) ∧ (pxcells F)[k * 3 + 1]? = some (.string ⟨F[k].x.new.toArray⟩) ∧ (pxcells F)[k * 3 + 2]? = some F[k].v := by
  induction F with
  | nil => intro k hk; cases hk
  | cons f F ih =>
    intro k hk
    have e : pxcells (f :: F) = pxC f ++ pxcells F := by simp [pxcells]
    rw [e]
    cases k with
    | zero => exact ⟨rfl, rfl, rfl⟩
    | succ k =>
      obtain ⟨h1, h2, h3⟩ := ih k (by simpa using hk)
      have e0 : (k + 1) * 3 = 3 + k * 3 := by omega
      have l3 : (pxC f).length = 3 := rfl
      refine ⟨?_, ?_, ?_⟩
      · rw [e0, List.getElem?_append_right (by rw [l3]; omega), l3, show 3 + k * 3 - 3 = k * 3 by omega]; exact h1
      · rw [e0, List.getElem?_append_right (by rw [l3]; omega), l3, show 3 + k * 3 + 1 - 3 = k * 3 + 1 by omega]; exact h2
      · rw [e0, List.getElem?_append_right (by rw [l3]; omega), l3, show 3 + k * 3 + 2 - 3 = k * 3 + 2 by omega]; exact h3
theorem HPp.at {w : World} {ao : Option Addr} {n c : Nat} {F : List Pfd} (h : HPp w (.slice ao n c) F) (h0 : 0 < F.length) : ∃ b off, ao = some ⟨b, off, none⟩ ∧ b < w.heap.size ∧
    ∀ k (hk : k < F.length), w.cell? ⟨b, off + k * 3, none⟩ = some (.string ⟨F[k].x.old.toArray⟩) ∧ w.cell? ⟨b, off + k * 3 + 1, none⟩ = some (.string ⟨F[k].x.new.toArray⟩) ∧ w.cell? ⟨b, off + k * 3 + 2, none⟩ = some F[k].v := by
  obtain ⟨b, off, c', hv, hb, hc⟩ := Holds.at h.row (by rw [pxcells_length]; omega)
  cases hv
  refine ⟨b, off, rfl, hb, fun k hk => ?_⟩
  obtain ⟨h1, h2, h3⟩ := pxcells_at F k hk
  have hcc : ∀ j u, (pxcells F)[j]? = some u → w.cell? ⟨b, off + j, none⟩ = some u := fun j u hj => by
    obtain ⟨hj1, hj2⟩ := List.getElem?_eq_some_iff.1 hj
    rw [hc j hj1, hj2]
  exact ⟨hcc _ _ h1, by rw [Nat.add_assoc]; exact hcc _ _ h2, by rw [Nat.add_assoc]; exact hcc _ _ h3⟩
set_option maxHeartbeats 4000000 in
theorem rSameAll_t (F G : List Pfd) (va vb : Value) (w : World) (ha : HPp w va F) (hb : HPp w vb G) (HE : Hid (F.map (·.x) = G.map (·.x))) (HO : Hid (∀ f ∈ F, HOw f.hs)) (hl : F.length ≤ 1099511627776) :
    Calls Tryz.prog 22 #[va, vb] w fun e w' => e = .returned (.bool true) ∧ Below w.heap.size w w' := by
  obtain ⟨ao, ac, rfl⟩ := Holds.form ha.row
  obtain ⟨bo, bc, rfl⟩ := Holds.form hb.row
  have hlen : F.length = G.length := (by have := congrArg List.length HE.out; simpa using this)
  have hne : ((F.length : Int) != (G.length : Int)) = false := (by rw [hlen]; simp)
  go_enter Tryz.func22, Tryz.ntmps22
  go_wp2
  go_loopw [5] (fun i wr => ∃ k : Nat, k ≤ F.length ∧ i = .int .i64 k ∧ Below w.heap.size w wr) (fun i _ => F.length - (intOf i).toNat)
  case atStart => exact ⟨0, Nat.zero_le _, by go_num, Below.refl _ _⟩
  case round =>
  obtain ⟨k, hk, rfl, hB⟩ := hrel
  by_cases hlt : k < F.length
  · have hak := ha.keep hB
    have hbk := hb.keep hB
    obtain ⟨b1, o1, rfl, hb1, hc1⟩ := HPp.at hak (by omega)
    obtain ⟨b2, o2, rfl, hb2, hc2⟩ := HPp.at hbk (by omega)
    obtain ⟨x0, x1, x2⟩ := hc1 k hlt
    obtain ⟨y0, y1, y2⟩ := hc2 k (by omega)
    have i1 : (0 : Int) ≤ (k : Int) := by omega
    have i2 : (k : Int) < (F.length : Int) := by omega
    have i3 : (k : Int) < (G.length : Int) := by omega
    have i4 : (k : Int).toNat = k := by omega
    obtain ⟨f, hf⟩ : ∃ f, F[k] = f := ⟨_, rfl⟩
    obtain ⟨g, hg⟩ : ∃ g, G[k]'(by omega) = g := ⟨_, rfl⟩
    have hfm : f ∈ F := (by rw [← hf]; exact List.getElem_mem _)
    have hgm : g ∈ G := (by rw [← hg]; exact List.getElem_mem _)
    have hxe : f.x = g.x := (by
      have h1 : (F.map (·.x))[k]? = (G.map (·.x))[k]? := by rw [HE.out]
      rw [List.getElem?_map, List.getElem?_map, List.getElem?_eq_getElem hlt, List.getElem?_eq_getElem (by omega), hf, hg] at h1
      simpa using h1)
    rw [hf] at x0 x1 x2
    rw [hg] at y0 y1 y2
    have hcall := fun u (hu : Below w.heap.size w u) => rSamePt_f f.x g.x f.hs g.hs (ha.ins f hfm).1 (hb.ins g hgm).1 f.v g.v u ((ha.ins f hfm).2.keep hu (Nat.le_refl _)) ((hb.ins g hgm).2.keep hu (Nat.le_refl _)) (HO.out f hfm) true (show Hid (true = true ↔ f.x = g.x) from ⟨fun _ => hxe, fun _ => rfl⟩)
    obtain ⟨fo, fc, hfv⟩ := Holds.form ((ha.ins f hfm).2).row
    obtain ⟨go, gc, hgv⟩ := Holds.form ((hb.ins g hgm).2).row
    unfold ptV at hcall
    rw [hfv] at x2 hcall
    rw [hgv] at y2 hcall
    clear hc1 hc2 hak hbk hxe hf hg hfm hgm hfv hgv
    go_wp2_with fail
    go_region_with (go_at_call 58; refine (hcall _ hB.drew).mono ?_; rintro e w2 ⟨rfl, hB2⟩)
    all_goals (
      have hB3 := hB.drew.trans (hB2.mono hB.drew.size)
      first
      | exact ⟨⟨k + 1, by omega, by go_num, hB3⟩, by simp [intOf]; omega⟩
      | (go_wp2; exact ⟨⟨k + 1, by omega, by go_num, hB3⟩, by simp [intOf]; omega⟩))
  · have hend : decide ((k : Int) < (F.length : Int)) = false := decide_eq_false (by omega)
    go_wp2
    go_ret
    exact ⟨rfl, hB⟩
end Go.Proofs.YtgiojkhmkeocfaaGreatDoor

/- The reference's SameAll of layer 15, walked for any two rows of patches. -/
set_option maxRecDepth 20000
namespace Go.Proofs.YtgiojkhmkeocfaaGreatDoor
open Go.RowKit

end Go.Proofs.YtgiojkhmkeocfaaGreatDoor

/- The reference's Read of layer 12, walked: for a seat without layer 12's own code. -/
set_option maxRecDepth 20000
namespace Go.Proofs.YtgiojkhmkeocfaaGreatDoor
open Go.RowKit

set_option maxHeartbeats 2000000 in
theorem rRead15_long (t : List UInt8) (w : World) (hlong : 1048576 < t.length) :
    Calls Tryz.prog 52 #[.string ⟨t.toArray⟩] w fun e w' => e = .returned (.pointer (some ⟨w.heap.size, 0, none⟩)) ∧ Rx w' w.heap.size (.slice none 0 0) 0 0 9 ∧ Below w.heap.size w w' := by
  have HA : Hid (Rx (w.alloc (rdO (.slice none 0 0) 0 0 9)) w.heap.size (.slice none 0 0) 0 0 9 ∧ Below w.heap.size w (w.alloc (rdO (.slice none 0 0) 0 0 9))) := ⟨heap_alloc_new w _, (Below.refl _ w).alloc (Nat.le_refl _) _⟩
  have i1 : (1048576 : Int) < (t.length : Int) := by omega
  go_enter Tryz.func52, Tryz.ntmps52
  go_wp2
  go_ret
  exact ⟨rfl, HA.out.1, HA.out.2⟩
set_option maxHeartbeats 2000000 in
theorem rRead15_f (t : List UInt8) (w : World) (hl : t.length ≤ 1048576) :
    Calls Tryz.prog 52 #[.string ⟨t.toArray⟩] w fun e w' => ∃ R lo lc, e = .returned (.pointer (some ⟨R, 0, none⟩)) ∧ Rx w' R (.slice lo (Ln.splitL t).length lc) 0 0 0 ∧ w'.ownsRow w.heap.size 9 1 (.slice lo (Ln.splitL t).length lc) (Ln.splitL t).length (scells (Ln.splitL t)) ∧ (∀ a, lo = some a → a.block ≠ R) ∧ w.heap.size ≤ R ∧ Below w.heap.size w w' := by
  have hs := rSplit_f t w (by omega)
  have i1 : ¬ (1048576 : Int) < (t.length : Int) := by omega
  generalize Ln.splitL t = L at *
  go_enter Tryz.func52, Tryz.ntmps52
  go_wp2_with fail
  refine hs.mono ?_
  rintro e w1 ⟨v, rfl, hown, hb⟩
  have hL : HS w1 v L := holds_of hown
  obtain ⟨lo, lc, rfl⟩ := Holds.form hL
  have HA : Hid (Rx (w1.alloc (rdO (.slice lo L.length lc) 0 0 0)) w1.heap.size (.slice lo L.length lc) 0 0 0 ∧ (w1.alloc (rdO (.slice lo L.length lc) 0 0 0)).ownsRow w.heap.size 9 1 (.slice lo L.length lc) L.length (scells L) ∧ (∀ a, lo = some a → a.block ≠ w1.heap.size) ∧ w.heap.size ≤ w1.heap.size ∧ Below w.heap.size w (w1.alloc (rdO (.slice lo L.length lc) 0 0 0))) := (by
    refine ⟨heap_alloc_new w1 _, hown.alloc _, ?_, hb.size, hb.alloc hb.size _⟩
    intro a ha e
    rcases hown.2 with ⟨h1, _⟩ | ⟨g, cap, cur, h1, _, h2, _⟩
    · injection h1 with h3 _ _
      rw [h3] at ha
      cases ha
    · cases h1
      cases ha
      have := (Array.getElem?_eq_some_iff.1 h2).1
      dsimp only at e
      omega)
  clear hs hb
  go_wp2
  go_ret
  exact ⟨_, _, _, rfl, HA.out⟩
end Go.Proofs.YtgiojkhmkeocfaaGreatDoor
