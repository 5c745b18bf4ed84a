/-
  Texts that belong together, joined: HuC1, EdSameS, EdRApp, EdOpen, EdOpenS, EfAp, HuIv, HuCn, HuOne, HuCh, HuGr, HuC7, HuC8, HuC9, HuMk, HuCa, HuLw, PaMath, MiMath.
-/
import Derived.Test.YtnlbjknfahhfaaaGreatDoorPartA5
import Derived.Deep.CutRange
import Derived.Test.YtnlbjknfahhfaaaGreatDoorRows
import Derived.Test.YtnlbjknfahhfaaaGreatDoorChecked
import Derived.Test.YtnlbjknfahhfaaaGreatDoorPartA3
import Derived.ProofKit
import Derived.OpenShut
import Derived.ShutString
import Derived.ChangeOld
import Derived.Below
import Derived.SliceStrings
import Derived.ChangeSlices
import Derived.Deep.Slices
import Derived.Deep.SlicePairs
import Derived.JoinedCond
import Derived.Test.YtnlbjknfahhfaaaGreatDoorPartA4

/- The code's small functions of layer 11, walked: the lines of a side, numbers, places, signs. -/
set_option maxRecDepth 20000
namespace Go.Proofs.YtnlbjknfahhfaaaGreatDoor
open Go.RowKit

/-- which sign a side has, and which it has not -/
def Sd (sg no : Int) : Prop := sg = 45 ∧ no = 43 ∨ sg = 43 ∧ no = 45
theorem sd_iff {sg no : Int} (h : Sd sg no) (s : Int) : (s ≠ no ∧ okS s = true) ↔ (s = 32 ∨ s = sg) := by
  simp only [okS, Bool.or_eq_true, decide_eq_true_eq]
  rcases h with ⟨rfl, rfl⟩ | ⟨rfl, rfl⟩ <;> omega
theorem pk_take {sg no : Int} (h : Sd sg no) {s : Int} (hs : s = 32 ∨ s = sg) {out R : List (List UInt8)} {tx : List UInt8} {l : List Mk} (hI : out ++ (if s ≠ no ∧ okS s = true then tx :: pkL no l else pkL no l) = R) : out ++ [tx] ++ pkL no l = R := by
  rw [if_pos ((sd_iff h s).2 hs)] at hI
  rw [← hI]
  simp
theorem pk_pass {sg no : Int} (h : Sd sg no) {s : Int} (h1 : s ≠ 32) (h2 : s ≠ sg) {out R : List (List UInt8)} {tx : List UInt8} {l : List Mk} (hI : out ++ (if s ≠ no ∧ okS s = true then tx :: pkL no l else pkL no l) = R) : out ++ pkL no l = R := by
  rw [if_neg (fun q => by rcases (sd_iff h s).1 q with q | q <;> contradiction)] at hI
  exact hI

theorem owns_less {u : World} {base base' : Nat} {e : TypeId} {s : Nat} {v : Value} {n : Nat} {xs : List Value} (h : u.ownsRow base e s v n xs) (hb : base' ≤ base) : u.ownsRow base' e s v n xs := by
  refine ⟨h.1, ?_⟩
  rcases h.2 with q | ⟨b, cap, cur, rfl, q2, q3, q4⟩
  · exact .inl q
  · exact .inr ⟨b, cap, cur, rfl, Nat.le_trans hb q2, q3, q4⟩

/-- may a hunk say that number of its lines? -/
def nmB (a n : Int) : Bool := nat31 a && nat31 n && !(decide (a = 0) && decide (0 < n))
/-- is a line changed? is its sign none? -/
def chgB (m : Mk) : Bool := decide (m.sg = 45) || decide (m.sg = 43)
end Go.Proofs.YtnlbjknfahhfaaaGreatDoor

/- SameStrings of the reference, walked at two slices that hold the same. -/
set_option maxRecDepth 20000
namespace Go.Proofs.YtnlbjknfahhfaaaGreatDoor
open Go.RowKit

set_option maxHeartbeats 1000000 in
theorem SameS_any (va vb : Value) (l : List (List UInt8)) (w : World) (hlen : l.length ≤ 4398046511104) (ha : HS w va l) (hb : HS w vb l) :
    Calls Tryz.prog 15 #[va, vb] w fun e w' => e = .returned (.bool true) ∧ Below w.heap.size w w' := by
  obtain ⟨ao, ca, rfl⟩ := Holds.form ha
  obtain ⟨bo, cb, rfl⟩ := Holds.form hb
  go_enter Tryz.func15, Tryz.ntmps15
  go_wp2
  go_loopw [5] (fun i wr => ∃ k m : Nat, k ≤ l.length ∧ i = .int .i64 k ∧ wr = w.drewN m) (fun i _ => l.length - (intOf i).toNat)
  case atStart => exact ⟨0, 0, Nat.zero_le _, rfl, rfl⟩
  case round =>
    obtain ⟨k, m, hk, rfl, rfl⟩ := hrel
    by_cases hlt : k < l.length
    · obtain ⟨b1, o1, rfl, _, hc1⟩ := HS.at ha (by omega)
      obtain ⟨b2, o2, rfl, _, hc2⟩ := HS.at hb (by omega)
      have d1 := hc1 k hlt
      have d2 := hc2 k hlt
      clear hc1 hc2
      have i1 : 0 ≤ (k : Int) := by omega
      have i2 : (k : Int) < (l.length : Int) := by omega
      go_wp2_with fail
      go_quiet (fail)
      go_wp2
      go_roundw
      case rel => exact ⟨k + 1, _, by omega, by go_num, rfl⟩
      case measure => simp [intOf]; omega
    · go_wp2
      go_ret
      exact ⟨rfl, Below.dN (Below.refl _ w) _⟩

end Go.Proofs.YtnlbjknfahhfaaaGreatDoor

/- What a script makes of a text: the reference's Apply, walked. -/
set_option maxRecDepth 20000
namespace Go.Proofs.YtnlbjknfahhfaaaGreatDoor
open Go.RowKit
attribute [local simp] st_drew low_drew

theorem run_cut_to (A : List (List UInt8)) (ao : Option Addr) (cap : Nat) (i h : Int) (h0 : 0 ≤ i) (h1 : i ≤ h) (h2 : h ≤ A.length) (w : World) (hA : HS w (.slice ao A.length cap) A) :
    ∃ vo vc, (∀ u : World, (Instr.slice 23 (.slice ao A.length cap) (some (.int .i64 i)) (some (.int .i64 h)) none).run Tryz.prog u = .ok (.slice vo (cut A i (h - i)).length vc) u) ∧ (∀ u : World, HS u (.slice ao A.length cap) A → HS u (.slice vo (cut A i (h - i)).length vc) (cut A i (h - i))) := by
  obtain ⟨vs, h3, h4⟩ := run_cut A ao cap i (h - i) h0 (by omega) (by omega) w hA
  obtain ⟨vo, vc, rfl⟩ := Holds.form (h4 w hA)
  have e : i + (h - i) = h := by omega
  rw [e] at h3
  exact ⟨vo, vc, h3, h4⟩
theorem run_cut_end (A : List (List UInt8)) (ao : Option Addr) (cap : Nat) (i : Int) (h0 : 0 ≤ i) (h1 : i ≤ A.length) (w : World) (hA : HS w (.slice ao A.length cap) A) :
    ∃ vo vc, (∀ u : World, (Instr.slice 23 (.slice ao A.length cap) (some (.int .i64 i)) none none).run Tryz.prog u = .ok (.slice vo (cut A i (A.length - i)).length vc) u) ∧ (∀ u : World, HS u (.slice ao A.length cap) A → HS u (.slice vo (cut A i (A.length - i)).length vc) (cut A i (A.length - i))) := by
  obtain ⟨vo, vc, h3, h4⟩ := run_cut_to A ao cap i A.length h0 h1 (Int.le_refl _) w hA
  refine ⟨vo, vc, fun u => ?_, h4⟩
  rw [← h3 u]
  have hcap : A.length ≤ cap := by
    rcases hA with ⟨h, h3, _⟩ | ⟨ad, c, h, h3, _⟩
    · omega
    · cases h; exact h3
  rw [run_slice_l (P := Tryz.prog) u 23 ao A.length cap (by kernel_rfl) .i64 i h0 h1, run_slice_lh (P := Tryz.prog) u 23 ao A.length cap (by kernel_rfl) .i64 .i64 i A.length h0 h1 (by omega)]
  simp

theorem piecesL_length (a b n m : Int) (l : List Ch) : (piecesL a b n m l).length = l.length + 1 := by
  induction l generalizing a b with
  | nil => rfl
  | cons c l ih => simp [piecesL, ih]
theorem applyL_length (l : List Ch) (A B : List (List UInt8)) : (applyL l A B).length ≤ (l.length + 1) * (A.length + B.length) := by
  rw [← piecesL_length 0 0 A.length B.length l]
  unfold applyL
  generalize piecesL 0 0 A.length B.length l = ps
  induction ps with
  | nil => simp
  | cons x t ih =>
    have h1 : (pa A B x).length ≤ A.length + B.length := by simp [pa, cut]; omega
    simp only [List.flatMap_cons, List.length_append, List.length_cons]
    rw [Nat.add_mul]
    omega
/-- what the rest of a script makes -/
def restA (A B : List (List UInt8)) (a b : Int) (l : List Ch) : List (List UInt8) := (piecesL a b A.length B.length l).flatMap (pa A B)
theorem restA_cons (A B : List (List UInt8)) (a b : Int) (c : Ch) (l : List Ch) : restA A B a b (c :: l) = cut A a (c.A - a) ++ cut B c.B c.BN ++ restA A B (c.A + c.AN) (c.B + c.BN) l := by simp [restA, piecesL, pa]
theorem restA_nil (A B : List (List UInt8)) (a b : Int) : restA A B a b [] = cut A a (A.length - a) := by simp [restA, piecesL, pa, cut]

end Go.Proofs.YtnlbjknfahhfaaaGreatDoor

/- What an argument of type []int, []api.Change holds, and how much of it there is by the statement's own count. -/
set_option maxRecDepth 20000
namespace Go.Proofs.YtnlbjknfahhfaaaGreatDoor
open Go.ChangeShapes Go.WideShapes Go.ChangeAt Go.RowKit

theorem own : ownKnob Tryz.prog.godebug = none := by kernel_rfl
theorem laidOut : laidOutB Tryz.prog = true := by kernel_rfl
theorem cellsInt : Tryz.prog.cellsOf 3 = 1 := by kernel_rfl
theorem cellsCh : Tryz.prog.cellsOf 48 = 4 := by kernel_rfl

/-- numbers that an int holds -/
def w64 (z : Int) : Prop := -9223372036854775808 ≤ z ∧ z ≤ 9223372036854775807
theorem w64_of {z : Int} (h : (Lit.int .i64 z).wf = true) : w64 z := bounds_i64 h
/-- a change of numbers that an int holds -/
def wCh (c : Ch) : Prop := w64 c.A ∧ w64 c.AN ∧ w64 c.B ∧ w64 c.BN

theorem lits_len {H : Type} (l : List Int) : l.length ≤ Rows.uptoBulkAll (lits (H := H) .i64 l) := by
  induction l with
  | nil => simp [lits, Rows.uptoBulkAll]
  | cons s t ih =>
    have e : lits (H := H) .i64 (s :: t) = .lit (.int .i64 s) :: lits .i64 t := rfl
    rw [e]
    simp only [Rows.uptoBulkAll, Rows.uptoBulk, List.length_cons]
    omega

/-- the numbers that an argument holds -/
theorem open_nums {H : Type} {enc : TypeId × Value → H} {W : World} {fuel : Nat} {ao : Option Addr} {len cap : Nat} {d : DataW H} {p : List MemPlace}
    (h : DataW.trod enc Tryz.prog W 0 (fun _ => true) true fuel 55 [.slice ao len cap] = some (d, p)) :
    ∃ zs : List Int, HI W (.slice ao len cap) zs ∧ zs.length ≤ Rows.uptoBulk d ∧ ∀ z ∈ zs, w64 z := by
  rcases open_ints Tryz.underlying55 Tryz.underlying3 cellsInt h with ⟨hcs, hx⟩ | ⟨a, l, c, zs, hcs, _, hl, hm, hz, hx, hcell, hwf⟩
  · simp at hcs
    obtain ⟨rfl, rfl, rfl⟩ := hcs
    exact ⟨[], .inl ⟨rfl, rfl, rfl⟩, by simp, by simp⟩
  · simp at hcs
    obtain ⟨rfl, rfl, rfl⟩ := hcs
    simp at hz
    simp only [Prod.mk.injEq] at hx
    obtain ⟨rfl, _⟩ := hx
    have hlen : (zs.take len).length = len := by simp; omega
    refine ⟨zs.take len, .inr ⟨a, cap, by rw [hlen], by omega, fun j u hj => ?_⟩, ?_, fun z hz => w64_of (hwf z (List.mem_of_mem_take hz))⟩
    · have hj' : j < len := by
        have := (List.getElem?_eq_some_iff.1 hj).1
        rw [icells_length, hlen] at this
        exact this
      rw [hcell j (by omega)]
      have hjs : j < zs.length := by omega
      simp [icells, hj', hjs] at hj
      simp [List.getD, hjs, ← hj]
    · have := lits_len (H := H) (zs.take len)
      rw [Rows.uptoBulk]
      omega

theorem bulk_range {H : Type} (D : Nat → DataW H) (n : Nat) (h : ∀ i, i < n → 1 ≤ Rows.uptoBulk (D i)) : n ≤ Rows.uptoBulkAll ((List.range n).map D) := by
  have hall : ∀ l : List (DataW H), (∀ d ∈ l, 1 ≤ Rows.uptoBulk d) → l.length ≤ Rows.uptoBulkAll l := by
    intro l
    induction l with
    | nil => simp
    | cons d t ih =>
      intro hd
      have h1 := hd d (List.mem_cons_self ..)
      have h2 := ih fun x hx => hd x (List.mem_cons_of_mem _ hx)
      rw [Rows.uptoBulkAll]
      simp only [List.length_cons]
      omega
  have := hall ((List.range n).map D) (by
    intro d hd
    simp only [List.mem_map, List.mem_range] at hd
    obtain ⟨i, hi, rfl⟩ := hd
    exact h i hi)
  simpa using this

set_option maxRecDepth 10000 in
/-- the changes that an argument holds -/
theorem open_chs {H : Type} {enc : TypeId × Value → H} {W : World} {fuel : Nat} {ao : Option Addr} {len cap : Nat} {d : DataW H} {p : List MemPlace}
    (h : DataW.trod enc Tryz.prog W 0 (fun _ => true) true fuel 25 [.slice ao len cap] = some (d, p)) :
    ∃ l : List Ch, HCh W (.slice ao len cap) l ∧ l.length ≤ Rows.uptoBulk d ∧ ∀ c ∈ l, wCh c := by
  rcases Go.Deep.open_slice Tryz.underlying25 h with ⟨hcs, hx⟩ | ⟨a, l, c, m, n, D, Pl, hcs, _, hl, hm, hmm, hx, hel⟩
  · simp at hcs
    obtain ⟨rfl, rfl, rfl⟩ := hcs
    exact ⟨[], .inl ⟨rfl, rfl, rfl⟩, by simp, by simp⟩
  · simp at hcs
    obtain ⟨rfl, rfl, rfl⟩ := hcs
    simp only [Prod.mk.injEq] at hx
    obtain ⟨rfl, _⟩ := hx
    have hlm : len ≤ m := by rw [hmm]; split <;> omega
    have each : ∀ i, i < len → ∃ c : Ch, wCh c ∧ W.cell? (a.add (i * 4)) = some (.int .i64 c.A) ∧ W.cell? (a.add (i * 4 + 1)) = some (.int .i64 c.AN) ∧ W.cell? (a.add (i * 4 + 2)) = some (.int .i64 c.B) ∧ W.cell? (a.add (i * 4 + 3)) = some (.int .i64 c.BN) ∧ 1 ≤ Rows.uptoBulk (D i) := by
      intro i hi
      obtain ⟨cs', h1, h2⟩ := hel i (by omega)
      rw [cellsCh] at h1
      obtain ⟨_, hlen, hcell⟩ := World.cells?_some h1
      obtain ⟨xs, k, hk, hxy, _, hxl, hf⟩ := DataW.trod_struct Tryz.underlying48 h2
      match xs, hxl, cs', hlen with
      | [y0, y1, y2, y3], _, [v0, v1, v2, v3], _ =>
        have g0 := hf 0 _ rfl
        have g1 := hf 1 _ rfl
        have g2 := hf 2 _ rfl
        have g3 := hf 3 _ rfl
        simp [cellsInt] at g0 g1 g2 g3
        obtain ⟨z0, e0, _, w0⟩ := DataW.trod_int Tryz.underlying3 g0
        obtain ⟨z1, e1, _, w1⟩ := DataW.trod_int Tryz.underlying3 g1
        obtain ⟨z2, e2, _, w2⟩ := DataW.trod_int Tryz.underlying3 g2
        obtain ⟨z3, e3, _, w3⟩ := DataW.trod_int Tryz.underlying3 g3
        cases e0
        cases e1
        cases e2
        cases e3
        have c0 := hcell 0 (by omega)
        have c1 := hcell 1 (by omega)
        have c2 := hcell 2 (by omega)
        have c3 := hcell 3 (by omega)
        rw [Go.Deep.add_add] at c0 c1 c2 c3
        simp only [Prod.mk.injEq] at hxy
        refine ⟨⟨z0, z1, z2, z3⟩, ⟨w64_of w0, w64_of w1, w64_of w2, w64_of w3⟩, by simpa using c0, by simpa using c1, by simpa using c2, by simpa using c3, ?_⟩
        rw [hxy.1, Rows.uptoBulk]
        omega
    have : Inhabited Ch := ⟨⟨0, 0, 0, 0⟩⟩
    obtain ⟨f, hf⟩ := Go.Deep.choose_lt each
    have hlen : ((List.range len).map f).length = len := by simp
    refine ⟨(List.range len).map f, .inr ⟨a, cap, by rw [hlen], by rw [hlen]; exact hl, fun j u hj => ?_⟩, ?_, ?_⟩
    · have hj' : j < len * 4 := by
        have := (List.getElem?_eq_some_iff.1 hj).1
        rw [chcells_length, hlen] at this
        exact this
      obtain ⟨h0, h1, h2, h3⟩ := chcells_at ((List.range len).map f) (j / 4) (by rw [hlen]; omega)
      obtain ⟨_, g0, g1, g2, g3, _⟩ := hf (j / 4) (by omega)
      simp only [List.getElem_map, List.getElem_range] at h0 h1 h2 h3
      rcases (by omega : j = 4 * (j / 4) ∨ j = 4 * (j / 4) + 1 ∨ j = 4 * (j / 4) + 2 ∨ j = 4 * (j / 4) + 3) with e | e | e | e
      · rw [e, h0] at hj
        rw [e, Nat.mul_comm, g0, hj]
      · rw [e, h1] at hj
        rw [e, Nat.mul_comm, g1, hj]
      · rw [e, h2] at hj
        rw [e, Nat.mul_comm, g2, hj]
      · rw [e, h3] at hj
        rw [e, Nat.mul_comm, g3, hj]
    · rw [hlen, Rows.uptoBulk]
      have := bulk_range D len fun i hi => (hf i hi).2.2.2.2.2
      omega
    · intro c hc
      simp only [List.mem_map, List.mem_range] at hc
      obtain ⟨i, hi, rfl⟩ := hc
      exact (hf i hi).1
end Go.Proofs.YtnlbjknfahhfaaaGreatDoor

/- What an argument of type []string holds, and how much of it there is by the statement's own count. -/
set_option maxRecDepth 20000
namespace Go.Proofs.YtnlbjknfahhfaaaGreatDoor
open Go.ChangeShapes Go.WideShapes Go.ChangeAt Go.RowKit

theorem cellsStr : Tryz.prog.cellsOf 9 = 1 := by kernel_rfl
theorem strs_bulk {H : Type} (l : List ByteArray) : l.length + (l.map fun s => s.data.toList).flatten.length ≤ Rows.uptoBulkAll (strs (H := H) l) := by
  induction l with
  | nil => simp [strs, Rows.uptoBulkAll]
  | cons s t ih =>
    have e : strs (H := H) (s :: t) = .lit (.string s.data.toList) :: strs t := rfl
    rw [e, Rows.uptoBulkAll, Rows.uptoBulk]
    simp only [List.length_cons, List.map_cons, List.flatten_cons, List.length_append] at ih ⊢
    omega

/-- the texts that an argument holds -/
theorem open_texts {H : Type} {enc : TypeId × Value → H} {W : World} {fuel : Nat} {ao : Option Addr} {len cap : Nat} {d : DataW H} {p : List MemPlace}
    (h : DataW.trod enc Tryz.prog W 0 (fun _ => true) true fuel 23 [.slice ao len cap] = some (d, p)) :
    ∃ ws : List (List UInt8), HS W (.slice ao len cap) ws ∧ ws.length + ws.flatten.length ≤ Rows.uptoBulk d := by
  rcases open_strings Tryz.underlying23 Tryz.underlying9 cellsStr h with ⟨hcs, hx⟩ | ⟨a, l, c, ss, hcs, _, hl, hm, hz, hx, hcell, _⟩
  · simp at hcs
    obtain ⟨rfl, rfl, rfl⟩ := hcs
    exact ⟨[], .inl ⟨rfl, rfl, rfl⟩, by simp⟩
  · simp at hcs
    obtain ⟨rfl, rfl, rfl⟩ := hcs
    simp at hz
    simp only [Prod.mk.injEq] at hx
    obtain ⟨rfl, _⟩ := hx
    have hlen : ((ss.take len).map fun s => s.data.toList).length = len := by simp; omega
    refine ⟨(ss.take len).map fun s => s.data.toList, .inr ⟨a, cap, by rw [hlen], by omega, fun j u hj => ?_⟩, ?_⟩
    · have hj' : j < len := by
        have := (List.getElem?_eq_some_iff.1 hj).1
        rw [scells_length, hlen] at this
        exact this
      rw [hcell j (by omega)]
      have hjs : j < ss.length := by omega
      simp [scells, hj', hjs] at hj
      simp [List.getD, hjs, ← hj]
    · have := strs_bulk (H := H) (ss.take len)
      rw [Rows.uptoBulk]
      simp only [List.length_map] at this ⊢
      omega
end Go.Proofs.YtnlbjknfahhfaaaGreatDoor

/- Append onto a new row of what an argument holds, whether it is nil or not. -/
set_option maxRecDepth 20000
namespace Go.Proofs.YtnlbjknfahhfaaaGreatDoor
open Go.RowKit

theorem ef_append_w (w : World) (T E ty : TypeId) (z : Value) (size bytes : Nat) (hT : Tryz.prog.underlying T = some (.slice E)) (hinfo : (Tryz.prog.info? E).map (fun i => (i.zero, i.size, i.bytes)) = some (some z, size, bytes)) (hz1 : z.cells.size = size) (hsz : 0 < size) (hby : bytes ≤ 64)
    (base : Nat) (v : Value) (k : Nat) (xs : List Value) (hown : w.ownsRow base E size v k xs) (vx : Value) (m : Nat) (news : List Value) (hh : Holds w vx m news) (hl : news.length = m * size)
    (h1 : ∀ u ∈ news, u.oneCell' = true) (hk : k + m ≤ 2199023255552) (hbase : base ≤ w.heap.size) :
    ∃ v' w', (Builtin.append_ #[T, T] ty #[v, vx]).run Tryz.prog w = .ok v' w' ∧ w'.ownsRow base E size v' (k + m) (xs ++ news) ∧ w.grownBy w' v.ownBlock ∧ (v'.ownBlock = v.ownBlock ∨ v'.ownBlock = some w.heap.size) := by
  obtain ⟨i0, hi0, hz0, hzs, hz2⟩ := info_parts hinfo
  rcases hh with ⟨rfl, rfl, rfl⟩ | ⟨ad, c, rfl, _, hc⟩
  · exact ⟨v, w, run_append_owned_none (P := Tryz.prog) (w := w) base T ty E i0 size hT hi0 v k xs hown, by simpa using hown, World.grownBy.refl _ _, .inl rfl⟩
  · obtain ⟨v', w', hr, h2, h3, _, h5⟩ := run_append_own_at (P := Tryz.prog) w base T ty E i0 z size bytes hT hi0 hz0 hzs hz2 hz1 hsz v k xs hown ad m c news hl hc h1 (by unfold maxLen; omega) (by
      have : (k + m) * bytes ≤ (k + m) * 64 := Nat.mul_le_mul_left _ hby
      omega) hbase
    exact ⟨v', w', hr, h2, h3, h5⟩
theorem wpList_ef_append {ops : Array Oper} {rest : List Oper} {o : Oper} {a : Act} {Q : Exit → Act → World → Prop} (w : World) (hw : Region.wanted o (yielded ops a.tmps) = true) (s x : Operand) (T E : TypeId) (z : Value) (size bytes : Nat)
    (ho : o.op = .call { callee := .builtin .append, args := #[s, x], argTypes := #[T, T] }) (hT : Tryz.prog.underlying T = some (.slice E)) (hinfo : (Tryz.prog.info? E).map (fun i => (i.zero, i.size, i.bytes)) = some (some z, size, bytes)) (hz1 : z.cells.size = size) (hsz : 0 < size) (hby : bytes ≤ 64)
    (base : Nat) (v : Value) (k : Nat) (xs : List Value) (hs : a.eval s = v) (hown : w.ownsRow base E size v k xs) (vx : Value) (m : Nat) (news : List Value) (hx : a.eval x = vx) (hh : Holds w vx m news) (hl : news.length = m * size)
    (h1 : ∀ u ∈ news, u.oneCell' = true) (hk : k + m ≤ 2199023255552) (hbase : base ≤ w.heap.size)
    (h : ∀ v' w', w'.ownsRow base E size v' (k + m) (xs ++ news) → w.grownBy w' v.ownBlock → (v'.ownBlock = v.ownBlock ∨ v'.ownBlock = some w.heap.size) → wpList Tryz.prog ops Q rest (a.put o.dst v') w') : wpList Tryz.prog ops Q (o :: rest) a w := by
  refine wpList_step fun K hK => ?_
  rw [if_pos hw]
  obtain ⟨v', w', hr, h2, h3, h4⟩ := ef_append_w w T E o.type z size bytes hT hinfo hz1 hsz hby base v k xs hown vx m news hh hl h1 hk hbase
  unfold Oper.wp
  simp [execOp, ho, resolve, invoke, builtin, hs, hx, hr, Result.andThen]
  exact hK _ _ (h v' w' h2 h3 h4)
theorem mem_flatE {a : List (List UInt8)} {t : List UInt8} (h : t ∈ a) : t.length ≤ a.flatten.length := by
  induction a with
  | nil => cases h
  | cons s a ih =>
    rw [List.flatten_cons, List.length_append]
    rcases List.mem_cons.1 h with rfl | h
    · omega
    · have := ih h
      omega
end Go.Proofs.YtnlbjknfahhfaaaGreatDoor

/- The reference's Invert of layer 11, walked. -/
set_option maxRecDepth 20000
namespace Go.Proofs.YtnlbjknfahhfaaaGreatDoor
open Go.RowKit

/-- two operations that yield values, whichever comes first -/
theorem go_two {P : Program} {S : World → Prop} {md : Region.Mode} {ops : Array Oper} {Q : Exit → Act → World → Prop} {fuel : Nat} {listed : Array Bool} {A : Act} {w : World}
    (i d : Nat) (op : Oper) (j e : Nat) (oq : Oper) (hi : ops[i]? = some op) (hd : op.dst = some d) (hj : ops[j]? = some oq) (he : oq.dst = some e) (hr : Region.ready md ops listed = [i, j]) (hwt : Region.wanted op (yielded ops A.tmps) = true) (hwq : Region.wanted oq (yielded ops A.tmps) = true)
    (vp : Value) (wp : World) (hp : (execOp A.eval op).run P w = .ok (.value vp) wp) (hSp : S wp)
    (vq : Value) (wq : World) (hq : (execOp A.eval oq).run P w = .ok (.value vq) wq) (hSq : S wq)
    (h : wpAnyH P md ops Q S fuel (listed.setIfInBounds i true) (A.put (some d) vp) wp)
    (h2 : wpAnyH P md ops Q S fuel (listed.setIfInBounds j true) (A.put (some e) vq) wq) :
    wpAnyH P md ops Q S (fuel + 1) listed A w := by
  refine wpAnyH_ready hr (by simp) (AllReadyH.cons hi (fun K hK => ?_) (AllReadyH.cons hj (fun K hK => ?_) AllReadyH.nil))
  · refine step_want hwt ?_
    unfold Oper.wp
    rw [hp, Oper.upon_value]
    exact hK.out _ _ hSp (fun _ => by rw [hd]; exact h)
  · refine step_want hwq ?_
    unfold Oper.wp
    rw [hq, Oper.upon_value]
    exact hK.out _ _ hSq (fun _ => by rw [he]; exact h2)
/-- append, run by itself -/
theorem exec_app {w w' : World} {T : TypeId} {v vx v' : Value} {op : Oper} (x y : Operand) (ho : op.op = .call { callee := .builtin .append, args := #[x, y], argTypes := #[T, T] }) {ev : Operand → Value} (hx : ev x = v) (hy : ev y = vx) (hr : (Builtin.append_ #[T, T] op.type #[v, vx]).run Tryz.prog w = .ok v' w') :
    (execOp ev op).run Tryz.prog w = .ok (.value v') w' := by
  simp [execOp, ho, resolve, invoke, builtin, hx, hy, hr, Result.andThen]
section
variable {w : World} {q : Hk} {ov ov' av av' : Value} {x x' y y' : List Mk} {u u' : World}
theorem own_kept {e : TypeId} {s B : Nat} {v : Value} {n : Nat} {xs : List Value} (ho : u.ownsRow B e s v n xs) {g : Option Nat} (hg : u.grownBy u' g) (hne : ∀ k, g = some k → v.ownBlock ≠ some k) : u'.ownsRow B e s v n xs := by
  refine ⟨ho.1, ?_⟩
  rcases ho.2 with q | ⟨b, cap, cur, rfl, q2, q3, q4⟩
  · exact .inl q
  · refine .inr ⟨b, cap, cur, rfl, q2, ?_, q4⟩
    rw [hg.block b (Array.getElem?_eq_some_iff.1 q3).1 (fun e => hne b e.symm rfl)]
    exact q3
theorem grown_then {r r' : Option Nat} {u'' : World} (h : u.grownBy u' r) (h' : u'.grownBy u'' r') (hr : r' = r ∨ ∃ k, r' = some k ∧ u.heap.size ≤ k) : u.grownBy u'' r := by
  refine ⟨h'.os.trans h.os, h'.tape.trans h.tape, h'.output.trans h.output, Nat.le_trans h.size h'.size, fun k hk hne => ?_⟩
  rw [h'.block k (Nat.lt_of_lt_of_le hk h.size) ?_]
  · exact h.block k hk hne
  · intro e
    rcases hr with hr | ⟨j, hr, hj⟩
    · exact hne (e.trans hr)
    · rw [hr] at e
      cases e
      omega
theorem grown_alloc {r : Option Nat} (h : u.grownBy u' r) (o : Obj) : u.grownBy (u'.alloc o) r :=
  ⟨h.os, h.tape, h.output, Nat.le_trans h.size (by simp), fun k hk hne => by rw [Below.heap_alloc _ _ _ (Nat.lt_of_lt_of_le hk h.size)]; exact h.block k hk hne⟩
theorem own_base {e : TypeId} {s B B' : Nat} {v : Value} {n : Nat} {xs : List Value} (ho : u.ownsRow B e s v n xs) (hB : B' ≤ B) : u.ownsRow B' e s v n xs := by
  refine ⟨ho.1, ?_⟩
  rcases ho.2 with q | ⟨b, cap, cur, rfl, q2, q3, q4⟩
  · exact .inl q
  · exact .inr ⟨b, cap, cur, rfl, by omega, q3, q4⟩
end
end Go.Proofs.YtnlbjknfahhfaaaGreatDoor

/- The reference's count of layer 11, walked. -/
set_option maxRecDepth 20000
namespace Go.Proofs.YtnlbjknfahhfaaaGreatDoor
open Go.RowKit

section
variable {u : World} {b : Nat} {A AN B BN : Int} {ls : List Mk} {v : Value}
end

end Go.Proofs.YtnlbjknfahhfaaaGreatDoor

/- The reference's one of layer 11, walked. -/
set_option maxRecDepth 20000
namespace Go.Proofs.YtnlbjknfahhfaaaGreatDoor
open Go.RowKit

/-- a change in a box -/
def chO (c : Ch) : Obj := .cells #[.int .i64 c.A, .int .i64 c.AN, .int .i64 c.B, .int .i64 c.BN] 48
def Cx (u : World) (b : Nat) (c : Ch) : Prop := u.heap[b]? = some (chO c)
section
variable {u u' : World} {b : Nat} {c : Ch}
theorem Cx.cells (q : Cx u b c) : u.cell? ⟨b, 0, none⟩ = some (.int .i64 c.A) ∧ u.cell? ⟨b, 1, none⟩ = some (.int .i64 c.AN) ∧ u.cell? ⟨b, 2, none⟩ = some (.int .i64 c.B) ∧ u.cell? ⟨b, 3, none⟩ = some (.int .i64 c.BN) := by
  unfold Cx chO at q
  refine ⟨?_, ?_, ?_, ?_⟩ <;> rw [Lib.cell_of_heap q] <;> rfl
theorem Cx.lt (q : Cx u b c) : b < u.heap.size := (Array.getElem?_eq_some_iff.1 q).1
theorem Cx.low (q : Cx u b c) (hg : Below u.heap.size u u') : Cx u' b c := (hg.block b q.lt).trans q
theorem Cx.new (w : World) (c : Ch) : Cx (w.alloc (chO c)) w.heap.size c := _root_.Go.heap_alloc_new w _
end

theorem exec_ixC {u : World} {b off n c i : Nat} (hi : i < n) {op : Oper} (x y : Operand) (ho : op.op = .indexAddr 25 x y) {ev : Operand → Value} (hx : ev x = .slice (some ⟨b, off, none⟩) n c) (hy : ev y = .int .i64 (i : Int)) :
    (execOp ev op).run Tryz.prog u = .ok (.value (.pointer (some ⟨b, off + i * 4, none⟩))) u := by
  have i1 : 0 ≤ (i : Int) := by omega
  have i2 : (i : Int) < (n : Int) := by omega
  simp only [execOp, ho, hx, hy]
  go_simp
theorem exec_ixT {u : World} {b off n c i : Nat} (hi : i < n) {op : Oper} (x y : Operand) (ho : op.op = .indexAddr 23 x y) {ev : Operand → Value} (hx : ev x = .slice (some ⟨b, off, none⟩) n c) (hy : ev y = .int .i64 (i : Int)) :
    (execOp ev op).run Tryz.prog u = .ok (.value (.pointer (some ⟨b, off + i, none⟩))) u := by
  have i1 : 0 ≤ (i : Int) := by omega
  have i2 : (i : Int) < (n : Int) := by omega
  simp only [execOp, ho, hx, hy]
  go_simp
theorem load_tx {u : World} {a : Addr} {s : ByteArray} (h : u.cell? a = some (.string s)) {op : Oper} (x : Operand) (ho : op.op = .load 9 x) {ev : Operand → Value} (hx : ev x = .pointer (some a)) :
    (execOp ev op).run Tryz.prog u = .ok (.value (.string s)) u := by
  simp only [execOp, ho, hx]
  go_simp
/-- the cells of a change in a row -/
def ChAt (u : World) (b o : Nat) (x : Ch) : Prop := u.cell? ⟨b, o, none⟩ = some (.int .i64 x.A) ∧ u.cell? ⟨b, o + 1, none⟩ = some (.int .i64 x.AN) ∧ u.cell? ⟨b, o + 2, none⟩ = some (.int .i64 x.B) ∧ u.cell? ⟨b, o + 3, none⟩ = some (.int .i64 x.BN)
theorem hcell_keep {u u' : World} (hB : Low u u') {q : Addr} {z : Value} (hz : u.cell? q = some z) : u'.cell? q = some z := (World.cell?_of_block (w := u) (Below.block hB _ (World.block_lt_of_cell? _ _ hz))).trans hz
theorem ChAt.low {u u' : World} {b o : Nat} {x : Ch} (h : ChAt u b o x) (hB : Low u u') : ChAt u' b o x := ⟨hcell_keep hB h.1, hcell_keep hB h.2.1, hcell_keep hB h.2.2.1, hcell_keep hB h.2.2.2⟩
theorem load_chR {u : World} {b o : Nat} {h : Ch} (q : ChAt u b o h) {op : Oper} (x : Operand) (ho : op.op = .load 48 x) {ev : Operand → Value} (hx : ev x = .pointer (some ⟨b, o, none⟩)) :
    (execOp ev op).run Tryz.prog u = .ok (.value (chV h)) u := by
  obtain ⟨d0, d1, d2, d3⟩ := q
  unfold chV
  simp only [execOp, ho, hx]
  go_simp
theorem exec_dec {u : World} {n : Nat} (hn : n ≤ 4611686018427387904) {op : Oper} (x y : Operand) (ho : op.op = .binOp .sub 3 x y 3) {ev : Operand → Value} (hx : ev x = .int .i64 ((n + 1 : Nat) : Int)) (hy : ev y = .int .i64 1) :
    (execOp ev op).run Tryz.prog u = .ok (.value (.int .i64 (n : Int))) u := by
  have e : ((n + 1 : Nat) : Int) - 1 = (n : Int) := by omega
  have e3 : IntKind.i64.wrap (n : Int) = (n : Int) := wrap_s (by omega) (by omega)
  have e4 : wrap64 (n : Int) = (n : Int) := by unfold wrap64; omega
  simp only [execOp, ho, hx, hy]
  go_simp
theorem exec_storeCh {u : World} {B : Nat} {c0 c : Ch} (q : Cx u B c0) : ∃ u', Cx u' B c ∧ u.grownBy u' (some B) ∧ ∀ {op : Oper} (x y : Operand) (_ : op.op = .store 48 x y) {ev : Operand → Value} (_ : ev x = .pointer (some ⟨B, 0, none⟩)) (_ : ev y = chV c), (execOp ev op).run Tryz.prog u = .ok .skip u' := by
  obtain ⟨d0, d1, d2, d3⟩ := q.cells
  have f : ∀ j, u.frozen? ⟨B, j, none⟩ = false := fun j => Lib.frozen_of_heap q j
  have f0 := f 0
  have f1 := f 1
  have f2 := f 2
  have f3 := f 3
  refine ⟨(((u.setCell ⟨B, 0, none⟩ (.int .i64 c.A)).setCell ⟨B, 1, none⟩ (.int .i64 c.AN)).setCell ⟨B, 2, none⟩ (.int .i64 c.B)).setCell ⟨B, 3, none⟩ (.int .i64 c.BN), ?_, ?_, ?_⟩
  · have s1 := heap_setCell_same u B 0 _ _ (.int .i64 c.A) q
    have s2 := heap_setCell_same _ B 1 _ _ (.int .i64 c.AN) s1
    have s3 := heap_setCell_same _ B 2 _ _ (.int .i64 c.B) s2
    exact heap_setCell_same _ B 3 _ _ (.int .i64 c.BN) s3
  · exact (((grown_set u B 0 _).trans (grown_set _ B 1 _)).trans (grown_set _ B 2 _)).trans (grown_set _ B 3 _)
  · intro op x y ho ev hx hy
    unfold chV at hy
    simp only [execOp, ho, hx, hy]
    go_simp
theorem Cx.keep {u u' : World} {b : Nat} {c : Ch} (q : Cx u b c) {g : Option Nat} (hg : u.grownBy u' g) (hr : some b ≠ g) : Cx u' b c := (hg.block b q.lt hr).trans q

theorem cut_step {t : List (List UInt8)} {p : Nat} {hi : Int} (h1 : (p : Int) < hi) (h2 : hi ≤ t.length) {s : List UInt8} (hs : t[p]'(by omega) = s) : cut t p (hi - p) = s :: cut t ((p + 1 : Nat) : Int) (hi - ((p + 1 : Nat) : Int)) := by
  simp only [cut, Int.toNat_natCast]
  rw [List.drop_eq_getElem_cons (by omega : p < t.length), hs, show (hi - (p : Int)).toNat = (hi - ((p + 1 : Nat) : Int)).toNat + 1 by omega, List.take_succ_cons]
theorem mks_cons (s : Int) (t : List UInt8) (x : List (List UInt8)) : mks s (t :: x) = ⟨s, t⟩ :: mks s x := rfl

end Go.Proofs.YtnlbjknfahhfaaaGreatDoor

/- The reference's Changes of layer 11, walked. -/
set_option maxRecDepth 20000
namespace Go.Proofs.YtnlbjknfahhfaaaGreatDoor
open Go.RowKit

/-- a last change whose numbers can be added to -/
def Hhd : List Ch → Prop
  | [] => True
  | c :: _ => (-1 ≤ c.A ∧ 0 ≤ c.AN ∧ c.A + c.AN ≤ 4398046511104) ∧ -1 ≤ c.B ∧ 0 ≤ c.BN ∧ c.B + c.BN ≤ 4398046511104
/-- how many lines hunks have -/
def tot : List Hk → Nat
  | [] => 0
  | h :: l => h.ls.length + tot l
/-- changes backwards as cells -/
def bch (r : List Ch) : List Value := chcells r.reverse
theorem bch_cons (c : Ch) (r : List Ch) : bch (c :: r) = bch r ++ chC c := by simp [bch, chcells]
theorem bch_length (r : List Ch) : (bch r).length = r.length * 4 := by simp [bch, chcells_length]
theorem bch_at (c : Ch) (r : List Ch) : (bch (c :: r))[r.length * 4]? = some (.int .i64 c.A) ∧ (bch (c :: r))[r.length * 4 + 1]? = some (.int .i64 c.AN) ∧ (bch (c :: r))[r.length * 4 + 2]? = some (.int .i64 c.B) ∧ (bch (c :: r))[r.length * 4 + 3]? = some (.int .i64 c.BN) := by
  have hl := bch_length r
  rw [bch_cons]
  refine ⟨?_, ?_, ?_, ?_⟩ <;> rw [List.getElem?_append_right (by omega)] <;> simp [hl, chC]
theorem bch_setA (c : Ch) (r : List Ch) (z : Int) : (bch (c :: r)).set (r.length * 4 + 1) (.int .i64 z) = bch (⟨c.A, z, c.B, c.BN⟩ :: r) := by
  have hl := bch_length r
  rw [bch_cons, bch_cons, List.set_append_right _ _ (by omega)]
  simp [hl, chC]
theorem bch_setB (c : Ch) (r : List Ch) (z : Int) : (bch (c :: r)).set (r.length * 4 + 3) (.int .i64 z) = bch (⟨c.A, c.AN, c.B, z⟩ :: r) := by
  have hl := bch_length r
  rw [bch_cons, bch_cons, List.set_append_right _ _ (by omega)]
  simp [hl, chC]
/-- a row that is not empty: where it lies -/
theorem hown_at {u : World} {B : Nat} {e : TypeId} {s : Nat} {oo : Option Addr} {n oc : Nat} {xs : List Value} (h : u.ownsRow B e s (.slice oo (n + 1) oc) (n + 1) xs) : ∃ g, oo = some ⟨g, 0, none⟩ := by
  rcases h.2 with ⟨_, h0⟩ | ⟨g, cap, cur, e, _⟩
  · omega
  · cases e
    exact ⟨g, rfl⟩
theorem opn_head (a b : Int) (r : List Ch) : ∃ c t, opn a b r = c :: t ∧ c.A + c.AN = a ∧ c.B + c.BN = b := by
  unfold opn
  cases r with
  | nil => exact ⟨_, _, rfl, by simp, by simp⟩
  | cons c r =>
    by_cases h : endsAt a b (c :: r) = true
    · rw [if_pos h]
      simp only [endsAt, Bool.and_eq_true, decide_eq_true_eq] at h
      exact ⟨c, r, rfl, h.1, h.2⟩
    · rw [if_neg h]
      exact ⟨_, _, rfl, by simp, by simp⟩

end Go.Proofs.YtnlbjknfahhfaaaGreatDoor

/- The reference's Group of layer 11, walked. -/
set_option maxRecDepth 20000
namespace Go.Proofs.YtnlbjknfahhfaaaGreatDoor
open Go.RowKit

theorem infoCs : (Tryz.prog.info? 25).map (fun i => (i.zero, i.size, i.bytes)) = some (some (.slice none 0 0), 1, 24) := by kernel_rfl
/-- groups of one's own: a row of rows of changes -/
structure Gr (w : World) (ov : Value) (G : List (List Ch × Value)) (u : World) : Prop where
  low : Below w.heap.size w u
  own : u.ownsRow w.heap.size 25 1 ov G.length (G.map (·.2))
  ins : ∀ x ∈ G, u.ownsRow w.heap.size 48 4 x.2 x.1.length (chcells x.1)
/-- the last row is none of the others -/
def Lst (G : List (List Ch × Value)) : Prop := ∀ P x, G = P ++ [x] → ∀ y ∈ P, ∀ b, x.2.ownBlock = some b → y.2.ownBlock ≠ some b
section
variable {w u u' : World} {ov ov' : Value} {G P : List (List Ch × Value)}
theorem Gr.nil (w : World) : Gr w (.slice none 0 0) [] w := ⟨Below.refl _ _, hnil_row _ _ _ _, fun _ h => by cases h⟩
theorem Gr.alloc (h : Gr w ov G u) (o : Obj) : Gr w ov G (u.alloc o) := ⟨h.low.alloc h.low.size o, h.own.alloc o, fun x hx => (h.ins x hx).alloc o⟩
theorem Gr.drewN (h : Gr w ov G u) (n : Nat) : Gr w ov G (u.drewN n) := ⟨Below.dN h.low n, h.own, h.ins⟩
theorem Gr.keep (h : Gr w ov G u) (hk : Below u.heap.size u u') : Gr w ov G u' := ⟨h.low.trans (hk.mono h.low.size), owns_keep h.own hk, fun x hx => owns_keep (h.ins x hx) hk⟩
/-- a group more -/
theorem Gr.more (h : Gr w ov G u) {g : List Ch} {gv : Value} (hgv : u.ownsRow w.heap.size 48 4 gv g.length (chcells g)) (hg : u.grownBy u' ov.ownBlock) (ho : u'.ownsRow w.heap.size 25 1 ov' (G.length + 1) (G.map (·.2) ++ [gv])) : Gr w ov' (G ++ [(g, gv)]) u' := by
  have key : ∀ {v : Value} {n : Nat} {xs : List Value}, u.ownsRow w.heap.size 48 4 v n xs → u'.ownsRow w.heap.size 48 4 v n xs := fun hv => own_kept hv hg (fun k hk => own_ne h.own hv (by decide) hk)
  refine ⟨h.low.grown hg h.low.size (fun j hj => owns_ge h.own hj), ?_, fun z hz => ?_⟩
  · rw [List.length_append, List.map_append]
    exact ho
  · rcases List.mem_append.1 hz with hz | hz
    · exact key (h.ins z hz)
    · rw [List.mem_singleton.1 hz]
      exact key hgv
/-- the last group, longer: its row has grown, and the row of rows names it -/
theorem Gr.last {g g' : List Ch} {gv gv' : Value} (h : Gr w ov (P ++ [(g, gv)]) u) (hL : Lst (P ++ [(g, gv)])) (hg : u.grownBy u' gv.ownBlock) (ho : u'.ownsRow w.heap.size 48 4 gv' g'.length (chcells g')) (hb : gv'.ownBlock = gv.ownBlock ∨ gv'.ownBlock = some u.heap.size) :
    ∃ q cap, ov = .slice (some ⟨q, 0, none⟩) (P.length + 1) cap ∧ u'.cell? ⟨q, P.length, none⟩ = some gv ∧ u'.frozen? ⟨q, P.length, none⟩ = false ∧ Gr w ov (P ++ [(g', gv')]) (u'.setCell ⟨q, P.length, none⟩ gv') ∧ Lst (P ++ [(g', gv')]) := by
  have hown := h.own
  rw [List.length_append, List.length_singleton] at hown
  have hgl := h.ins (g, gv) (by simp)
  obtain ⟨oo, oc, hov⟩ := (holds_of hown).form
  subst hov
  obtain ⟨q, rfl⟩ := hown_at hown
  have hown' := own_kept hown hg (fun k hk => own_ne hgl hown (by decide) hk)
  have hst := hown'.stored P.length gv'
  have hset : ((P ++ [(g, gv)]).map (·.2)).set P.length gv' = (P ++ [(g', gv')]).map (·.2) := by simp
  rw [hset] at hst
  have hlow : Below w.heap.size w u' := h.low.grown hg h.low.size (fun j hj => owns_ge hgl hj)
  refine ⟨q, oc, rfl, ?_, hown'.frozenAt _, ⟨hlow.grown hst.2 hlow.size (fun j hj => by cases hj; exact owns_ge hown rfl), ?_, ?_⟩, ?_⟩
  · rw [hown'.cellAt P.length (by omega)]
    simp
  · rw [List.length_append, List.length_singleton]
    exact hst.1
  · intro x hx
    have hqx : ∀ {v : Value} {n : Nat} {xs : List Value}, u'.ownsRow w.heap.size 48 4 v n xs → (u'.setCell ⟨q, P.length, none⟩ gv').ownsRow w.heap.size 48 4 v n xs := fun hv => own_kept hv hst.2 (fun k hk => own_ne hown' hv (by decide) hk)
    rcases List.mem_append.1 hx with hx | hx
    · exact hqx (own_kept (h.ins x (List.mem_append_left _ hx)) hg (fun k hk => hL P (g, gv) rfl x hx k hk))
    · rw [List.mem_singleton.1 hx]
      exact hqx ho
  · intro P' x' he y hy b' hb'
    have he2 := List.append_inj' he rfl
    obtain ⟨rfl, hx'⟩ := he2
    have hx2 : (g', gv') = x' := by simpa using hx'
    subst hx2
    rcases hb with hb | hb
    · rw [hb] at hb'
      exact hL P (g, gv) rfl y hy b' hb'
    · rw [hb] at hb'
      cases hb'
      intro e
      have := own_lt (h.ins y (List.mem_append_left _ hy)) e
      omega
end
theorem right_nums {fl : Bool} {p q n m : Int} {l : List Ch} (h : Right fl p q n m l) : ∀ c ∈ l, numB c = true := by
  induction l generalizing fl p q with
  | nil => intro c hc; cases hc
  | cons d l ih =>
    intro c hc
    rcases List.mem_cons.1 hc with rfl | hc
    · exact h.1.1
    · exact ih h.2 c hc
theorem load_chs {u : World} {a : Addr} {o : Option Addr} {n c : Nat} (h : u.cell? a = some (.slice o n c)) {op : Oper} (x : Operand) (ho : op.op = .load 25 x) {ev : Operand → Value} (hx : ev x = .pointer (some a)) :
    (execOp ev op).run Tryz.prog u = .ok (.value (.slice o n c)) u := by
  simp only [execOp, ho, hx]
  go_simp
theorem exec_storeG {u : World} {b j : Nat} (hf : u.frozen? ⟨b, j, none⟩ = false) {o n c} (hc : u.cell? ⟨b, j, none⟩ = some (.slice o n c)) {o' n' c'} {op : Oper} (x y : Operand) (ho : op.op = .store 25 x y) {ev : Operand → Value} (hx : ev x = .pointer (some ⟨b, j, none⟩)) (hy : ev y = .slice o' n' c') :
    (execOp ev op).run Tryz.prog u = .ok .skip (u.setCell ⟨b, j, none⟩ (.slice o' n' c')) := by
  simp only [execOp, ho, hx, hy]
  go_simp
theorem ch_row (w : World) (c : Ch) : Holds (w.alloc (chO c)) (.slice (some ⟨w.heap.size, 0, none⟩) 1 1) 1 (chcells [c]) := new_holds w #[.int .i64 c.A, .int .i64 c.AN, .int .i64 c.B, .int .i64 c.BN] 48 1 1 (by decide)
theorem ch_own (w : World) (B : Nat) (c : Ch) (hB : B ≤ w.heap.size) : (w.alloc (chO c)).ownsRow B 48 4 (.slice (some ⟨w.heap.size, 0, none⟩) 1 1) 1 (chcells [c]) := by
  refine ⟨rfl, .inr ⟨_, 1, #[.int .i64 c.A, .int .i64 c.AN, .int .i64 c.B, .int .i64 c.BN], rfl, hB, _root_.Go.heap_alloc_new w _, Nat.le_refl _, by decide, rfl, rfl⟩⟩
theorem map_split {G : List (List Ch × Value)} {gs : List (List Ch)} {g : List Ch} (h : G.map (·.1) = gs ++ [g]) : ∃ P gv, G = P ++ [(g, gv)] ∧ P.map (·.1) = gs := by
  rcases List.eq_nil_or_concat G with rfl | ⟨P, x, rfl⟩
  · have := congrArg List.length h
    simp at this
  · rw [List.concat_eq_append] at h ⊢
    rw [List.map_append] at h
    have h2 := List.append_inj' h rfl
    obtain ⟨gx, gv⟩ := x
    have h3 : gx = g := by simpa using h2.2
    subst h3
    exact ⟨P, gv, rfl, h2.1⟩

/-- is a change near the one ahead of it? -/
def nrB (ctx : Int) (l : List Ch) (i : Nat) (d : Ch) : Bool := match (l.take i).getLast? with
  | none => false
  | some c => decide (d.A - c.A - c.AN ≤ 2 * ctx)
theorem last_take {l : List Ch} {j : Nat} (hj : j < l.length) : (l.take (j + 1)).getLast? = some l[j] := by
  rw [List.take_succ_eq_append_getElem hj, List.getLast?_append]
  simp
theorem grp_take {ctx : Int} {l : List Ch} {i : Nat} (hi : i < l.length) : (nrB ctx l i l[i] = true → ∃ gs gl, grp ctx (l.take i) = gs ++ [gl] ∧ grp ctx (l.take (i + 1)) = gs ++ [gl ++ [l[i]]]) ∧ (nrB ctx l i l[i] = false → grp ctx (l.take (i + 1)) = grp ctx (l.take i) ++ [[l[i]]]) := by
  cases i with
  | zero =>
    refine ⟨fun h => by simp [nrB] at h, fun _ => ?_⟩
    rw [List.take_succ_eq_append_getElem hi]
    rfl
  | succ j =>
    have e1 : l.take (j + 1) = l.take j ++ [l[j]] := List.take_succ_eq_append_getElem (by omega)
    have e2 : l.take (j + 1 + 1) = l.take j ++ [l[j]] ++ [l[j + 1]] := by rw [List.take_succ_eq_append_getElem hi, e1]
    obtain ⟨gs, g, h1, h2⟩ := grp_snoc ctx (l.take j) l[j] l[j + 1]
    have hn : nrB ctx l (j + 1) l[j + 1] = decide (l[j + 1].A - l[j].A - l[j].AN ≤ 2 * ctx) := by
      unfold nrB
      rw [last_take (by omega)]
    rw [hn, e1, e2, h1, h2]
    refine ⟨fun h => ?_, fun h => ?_⟩
    · rw [if_pos (of_decide_eq_true h)]
      exact ⟨gs, g ++ [l[j]], rfl, rfl⟩
    · rw [if_neg (of_decide_eq_false h)]
theorem lst_more {G : List (List Ch × Value)} {u : World} {w : World} {ov : Value} (h : Gr w ov G u) {g : List Ch} {gv : Value} {b : Nat} (hb : gv.ownBlock = some b) (hs : u.heap.size ≤ b) : Lst (G ++ [(g, gv)]) := by
  intro P' x' he y hy b' hb'
  have he2 := List.append_inj' he rfl
  obtain ⟨rfl, hx'⟩ := he2
  have hx2 : (g, gv) = x' := by simpa using hx'
  subst hx2
  dsimp only at hb'
  rw [hb] at hb'
  cases hb'
  intro e
  have := own_lt (h.ins y hy) e
  omega

end Go.Proofs.YtnlbjknfahhfaaaGreatDoor

/- The code's Group of layer 11, walked. -/
set_option maxRecDepth 20000
namespace Go.Proofs.YtnlbjknfahhfaaaGreatDoor
open Go.RowKit

/-- the groups lie apart from one another -/
def Apt (G : List (List Ch × Value)) : Prop := G.Pairwise fun x y => ∀ b, x.2.ownBlock = some b → y.2.ownBlock ≠ some b
theorem apt_lst {G : List (List Ch × Value)} (h : Apt G) : Lst G := by
  intro P x he y hy b hb e
  subst he
  exact (List.pairwise_append.1 h).2.2 y hy x (by simp) b e hb
theorem apt_more {G : List (List Ch × Value)} (h : Apt G) (g : List Ch) : Apt (G ++ [(g, .slice none 0 0)]) := by
  refine List.pairwise_append.2 ⟨h, List.pairwise_singleton _ _, ?_⟩
  intro x _ y hy b _ e
  rw [List.mem_singleton.1 hy] at e
  cases e
theorem apt_last {P : List (List Ch × Value)} {g g' : List Ch} {gv gv' : Value} (h : Apt (P ++ [(g, gv)])) {w u : World} {ov : Value} (hG : Gr w ov (P ++ [(g, gv)]) u) (hb : gv'.ownBlock = gv.ownBlock ∨ gv'.ownBlock = some u.heap.size) : Apt (P ++ [(g', gv')]) := by
  obtain ⟨h1, _, h3⟩ := List.pairwise_append.1 h
  refine List.pairwise_append.2 ⟨h1, List.pairwise_singleton _ _, ?_⟩
  intro x hx y hy b hxb e
  rw [List.mem_singleton.1 hy] at e
  dsimp only at e
  rcases hb with hb | hb
  · rw [hb] at e
    exact h3 x hx (g, gv) (by simp) b hxb e
  · rw [hb] at e
    cases e
    have := own_lt (hG.ins x (List.mem_append_left _ hx)) hxb
    omega
theorem cx_ne {u : World} {b : Nat} {d : Ch} (h : Cx u b d) {B s n : Nat} {v : Value} {xs : List Value} (ho : u.ownsRow B 25 s v n xs) : v.ownBlock ≠ some b := by
  intro e
  rcases ho.2 with ⟨rfl, _⟩ | ⟨g, cap, cur, rfl, _, hg, _⟩
  · cases e
  · simp only [Value.ownBlock, Option.some.injEq] at e
    subst e
    unfold Cx chO at h
    rw [h] at hg
    simp at hg
theorem exec_nil {u : World} {a : Addr} {op : Oper} (x : Operand) (ho : op.op = .nilCheck x) {ev : Operand → Value} (hx : ev x = .pointer (some a)) : (execOp ev op).run Tryz.prog u = .ok (.value (.pointer (some a))) u := by
  simp only [execOp, ho, hx]
  go_simp
/-- behind the change ahead -/
def enL (l : List Ch) (i : Nat) : Int := match (l.take i).getLast? with
  | none => 0
  | some c => c.A + c.AN
theorem enL_succ {l : List Ch} {i : Nat} (hi : i < l.length) : enL l (i + 1) = l[i].A + l[i].AN := by
  unfold enL
  rw [last_take hi]
theorem nr_en {l : List Ch} {i : Nat} (hi : i < l.length) {ctx : Int} {d : Ch} : nrB ctx l i d = (decide (0 < i) && decide (d.A - enL l i ≤ 2 * ctx)) := by
  cases i with
  | zero => rfl
  | succ j =>
    unfold nrB enL
    rw [last_take (by omega), decide_eq_true (Nat.succ_pos j), Bool.true_and]
    dsimp only
    rw [show d.A - (l[j].A + l[j].AN) = d.A - l[j].A - l[j].AN by omega]
theorem enL_num {l : List Ch} (h : ∀ c ∈ l, numB c = true) {i : Nat} (hi : i ≤ l.length) : 0 ≤ enL l i ∧ enL l i ≤ 4294967296 := by
  cases i with
  | zero => exact ⟨by unfold enL; simp, by unfold enL; simp⟩
  | succ j =>
    rw [enL_succ (by omega)]
    have := (numB_iff l[j]).1 (h _ (List.getElem_mem _))
    omega
theorem nil_row1 (w : World) : Holds (w.alloc (.cells #[.slice none 0 0] 25)) (.slice (some ⟨w.heap.size, 0, none⟩) 1 1) 1 [.slice none 0 0] := new_holds w #[.slice none 0 0] 25 1 1 (by decide)

end Go.Proofs.YtnlbjknfahhfaaaGreatDoor

/- The code's closure that lays the lines of a hunk, walked: the hunk in a box of one's own. -/
set_option maxRecDepth 20000
namespace Go.Proofs.YtnlbjknfahhfaaaGreatDoor
open Go.RowKit

/-- boxed changes stay -/
def CK (u u' : World) : Prop := ∀ B c, Cx u B c → Cx u' B c
theorem ck_refl (u : World) : CK u u := fun _ _ h => h
theorem ck_trans {u u' u'' : World} (h : CK u u') (h' : CK u' u'') : CK u u'' := fun B c q => h' B c (h B c q)
theorem ck_low {u u' : World} (h : Below u.heap.size u u') : CK u u' := fun _ _ q => q.low h
section
variable {w u u' : World} {q : Hk} {ov ov' : Value} {x' : List Mk}
end
theorem pk_mks {no sg : Int} (t : List (List UInt8)) : pkL no (mks sg t) = if sg ≠ no ∧ okS sg = true then t else [] := by
  induction t with
  | nil => simp [mks, pkL]
  | cons s t ih =>
    rw [mks_cons, pkL, ih]
    split <;> rfl
theorem mks_length (sg : Int) (t : List (List UInt8)) : (mks sg t).length = t.length := by simp [mks]

end Go.Proofs.YtnlbjknfahhfaaaGreatDoor

/- The code's hunk of a group, layer 11, walked. -/
set_option maxRecDepth 20000
namespace Go.Proofs.YtnlbjknfahhfaaaGreatDoor
open Go.RowKit

theorem pk_add (no : Int) (x y : List Mk) : ((pkL no x).length : Int) + ((pkL no y).length : Int) = ((pkL no (x ++ y)).length : Int) := by
  rw [pkL_append, List.length_append]
  omega
theorem exec_subI {u : World} {p q : Int} (h : IntKind.i64.wrap (p - q) = p - q) {op : Oper} (x y : Operand) (ho : op.op = .binOp .sub 3 x y 3) {ev : Operand → Value} (hx : ev x = .int .i64 p) (hy : ev y = .int .i64 q) :
    (execOp ev op).run Tryz.prog u = .ok (.value (.int .i64 (p - q))) u := by
  simp only [execOp, ho, hx, hy]
  go_simp
theorem exec_storeI {u : World} {a : Addr} (hf : u.frozen? a = false) {z0 : Int} (hc : u.cell? a = some (.int .i64 z0)) {z : Int} {op : Oper} (x y : Operand) (ho : op.op = .store 3 x y) {ev : Operand → Value} (hx : ev x = .pointer (some a)) (hy : ev y = .int .i64 z) :
    (execOp ev op).run Tryz.prog u = .ok .skip (u.setCell a (.int .i64 z)) := by
  simp only [execOp, ho, hx, hy]
  go_simp

end Go.Proofs.YtnlbjknfahhfaaaGreatDoor

/- The reference's Make of layer 11, walked. -/
set_option maxRecDepth 20000
namespace Go.Proofs.YtnlbjknfahhfaaaGreatDoor
open Go.RowKit

/-- a group of the row, read -/
theorem Gr.at {w W u : World} {oo : Option Addr} {n oc : Nat} {G : List (List Ch × Value)} (h : Gr w (.slice oo n oc) G W) (hB : Below W.heap.size W u) {i : Nat} (hi : i < G.length) {g : List Ch} {gv : Value} (hg : G[i] = (g, gv)) : ∃ q, oo = some ⟨q, 0, none⟩ ∧ u.cell? ⟨q, i, none⟩ = some gv ∧ HCh u gv g := by
  have hh := holds_of h.own
  obtain ⟨b, off, c', hv, hb, hc⟩ := Holds.at hh (by simp; omega)
  rcases h.own.2 with ⟨_, h0⟩ | ⟨q, cap, cur, e, _⟩
  · omega
  · cases e
    cases hv
    refine ⟨_, rfl, ?_, ?_⟩
    · have h1 := hc i (by simpa using hi)
      rw [Nat.zero_add] at h1
      refine hcell_keep hB ?_
      rw [h1]
      simp [hg]
    · have hin := h.ins (g, gv) (by rw [← hg]; exact List.getElem_mem hi)
      exact HCh.keep (holds_of hin) hB (Nat.le_refl _)

end Go.Proofs.YtnlbjknfahhfaaaGreatDoor

/- The code's Make of layer 11, walked. -/
set_option maxRecDepth 20000
namespace Go.Proofs.YtnlbjknfahhfaaaGreatDoor
open Go.RowKit

end Go.Proofs.YtnlbjknfahhfaaaGreatDoor

/- The laws' own small functions of layer 11, walked: small, changed; the two texts of the chapter's first case. -/
set_option maxRecDepth 20000
namespace Go.Proofs.YtnlbjknfahhfaaaGreatDoor
open Go.RowKit

theorem cntC_le (l : List Mk) : cntC l ≤ l.length := by
  induction l with
  | nil => simp [cntC]
  | cons m l ih => simp only [cntC, List.length_cons]; split <;> omega

end Go.Proofs.YtnlbjknfahhfaaaGreatDoor

/- Rising rows of pairs: how long the longest one is that begins with each member, heads of rows, what is picked: plain. -/
set_option maxRecDepth 20000
namespace Go.Proofs.YtnlbjknfahhfaaaGreatDoor

/-- a place of each text -/
structure Pr where
  X : Int
  Y : Int
/-- p may stand behind q in a rising row -/
abbrev ab (p q : Pr) : Prop := q.X < p.X ∧ q.Y < p.Y
theorem ab_trans {p q r : Pr} (h : ab p q) (h' : ab q r) : ab p r := ⟨Int.lt_trans h'.1 h.1, Int.lt_trans h'.2 h.2⟩
/-- the greatest length among those that may stand behind p -/
def mxl (p : Pr) : List Pr → List Nat → Nat
  | t :: ts, n :: ns => if ab t p then max n (mxl p ts ns) else mxl p ts ns
  | _, _ => 0
/-- how long the longest rising row is that begins with each member -/
def rl : List Pr → List Nat
  | [] => []
  | p :: t => (mxl p t (rl t) + 1) :: rl t
theorem rl_length (l : List Pr) : (rl l).length = l.length := by
  induction l with
  | nil => rfl
  | cons p t ih => simp [rl, ih]
theorem mxl_ge (p : Pr) (t : List Pr) (ns : List Nat) (k : Nat) (q : Pr) (n : Nat) (hq : t[k]? = some q) (hn : ns[k]? = some n) (ha : ab q p) : n ≤ mxl p t ns := by
  induction t generalizing ns k with
  | nil => simp at hq
  | cons a t ih =>
    cases ns with
    | nil => simp at hn
    | cons b ns =>
      rw [mxl]
      cases k with
      | zero =>
        simp at hq hn
        subst hq hn
        rw [if_pos ha]
        omega
      | succ k =>
        have := ih ns k (by simpa using hq) (by simpa using hn)
        split <;> omega
theorem mxl_at (p : Pr) (t : List Pr) (ns : List Nat) (h : 0 < mxl p t ns) : ∃ (k : Nat) (q : Pr), t[k]? = some q ∧ ns[k]? = some (mxl p t ns) ∧ ab q p := by
  induction t generalizing ns with
  | nil => simp [mxl] at h
  | cons a t ih =>
    cases ns with
    | nil => simp [mxl] at h
    | cons b ns =>
      rw [mxl] at h ⊢
      by_cases ha : ab a p
      · rw [if_pos ha] at h ⊢
        by_cases hb : mxl p t ns ≤ b
        · exact ⟨0, a, rfl, by simp; omega, ha⟩
        · obtain ⟨k, q, h1, h2, h3⟩ := ih ns (by omega)
          exact ⟨k + 1, q, by simpa using h1, by simp [h2]; omega, h3⟩
      · rw [if_neg ha] at h ⊢
        obtain ⟨k, q, h1, h2, h3⟩ := ih ns h
        exact ⟨k + 1, q, by simpa using h1, by simpa using h2, h3⟩
/-- a row of n + 1 members may stand behind p -/
def Hd (t : List Pr) (n : Nat) (p : Pr) : Prop := ∃ (k : Nat) (q : Pr), t[k]? = some q ∧ (rl t)[k]? = some (n + 1) ∧ ab q p
theorem Hd.down {t : List Pr} {n : Nat} {p : Pr} (h : Hd t (n + 1) p) : Hd t n p := by
  obtain ⟨k, q, h1, h2, h3⟩ := h
  induction t generalizing k with
  | nil => simp at h1
  | cons a t ih =>
    cases k with
    | zero =>
      simp [rl] at h1 h2
      subst h1
      obtain ⟨j, r, g1, g2, g3⟩ := mxl_at a t (rl t) (by omega)
      exact ⟨j + 1, r, by simpa using g1, by simp [rl, g2, h2], ab_trans g3 h3⟩
    | succ k =>
      obtain ⟨j, r, g1, g2, g3⟩ := ih k (by simpa using h1) (by simpa [rl] using h2)
      exact ⟨j + 1, r, by simpa using g1, by simpa [rl] using g2, g3⟩
theorem Hd.downs {t : List Pr} {n m : Nat} {p : Pr} (h : Hd t n p) (hm : m ≤ n) : Hd t m p := by
  induction n with
  | zero => obtain rfl : m = 0 := by omega
            exact h
  | succ n ih =>
    by_cases e : m = n + 1
    · subst e; exact h
    · exact ih h.down (by omega)
/-- X falls, Y rises, each of which may stay -/
def Stair (h : List Pr) : Prop := h.Pairwise fun a b => b.X ≤ a.X ∧ a.Y ≤ b.Y
/-- the heads of rows of each length, for what stands behind -/
structure Hds (t : List Pr) (H : List (List Pr)) : Prop where
  st : ∀ h ∈ H, Stair h
  eq : ∀ n h, H[n]? = some h → ∀ p, (∃ a ∈ h, ab a p) ↔ Hd t n p
  top : ∀ n ∈ rl t, n ≤ H.length
theorem Hds.start : Hds [] [] := ⟨by simp, by simp, by simp [rl]⟩
theorem Hds.beyond {t : List Pr} {H : List (List Pr)} (h : Hds t H) {n : Nat} (hn : H.length ≤ n) (p : Pr) : ¬ Hd t n p := by
  rintro ⟨k, q, h1, h2, h3⟩
  have := h.top (n + 1) (List.mem_of_getElem? h2)
  omega
/-- the first that is not behind p: so long is the longest row behind p -/
theorem mxl_of {t : List Pr} {H : List (List Pr)} (_h : Hds t H) {p : Pr} {n : Nat} (h1 : ∀ m, m < n → Hd t m p) (h2 : ¬ Hd t n p) : mxl p t (rl t) = n := by
  have hle : mxl p t (rl t) ≤ n := by
    by_cases hc : mxl p t (rl t) ≤ n
    · exact hc
    · exfalso
      obtain ⟨k, q, g1, g2, g3⟩ := mxl_at p t (rl t) (by omega)
      have : Hd t (mxl p t (rl t) - 1) p := ⟨k, q, g1, by rw [g2]; congr 1; omega, g3⟩
      exact h2 (this.downs (by omega))
  cases n with
  | zero => omega
  | succ n =>
    obtain ⟨k, q, g1, g2, g3⟩ := h1 n (Nat.lt_succ_self n)
    have := mxl_ge p t (rl t) k q (n + 1) g1 g2 g3
    omega
/-- how many of the heads have a greater X -/
def upto (h : List Pr) (x : Int) : Nat := h.findIdx fun a => decide (a.X ≤ x)
/-- how many of the heads have no greater Y -/
def grt (h : List Pr) (y : Int) : Nat := h.findIdx fun a => decide (y < a.Y)
/-- the heads and p -/
def ins (h : List Pr) (p : Pr) : List Pr := h.take (upto h p.X) ++ p :: h.drop (grt h p.Y)
theorem upto_le (h : List Pr) (x : Int) : upto h x ≤ h.length := List.findIdx_le_length
theorem grt_le (h : List Pr) (y : Int) : grt h y ≤ h.length := List.findIdx_le_length
theorem upto_lt {h : List Pr} {x : Int} {i : Nat} (hi : i < upto h x) (hl : i < h.length) : x < h[i].X := by
  have := List.not_of_lt_findIdx (p := fun a : Pr => decide (a.X ≤ x)) (xs := h) hi
  simpa using this
theorem upto_ge {h : List Pr} (hs : Stair h) {x : Int} {i : Nat} (hi : upto h x ≤ i) (hl : i < h.length) : h[i].X ≤ x := by
  have h0 : upto h x < h.length := by omega
  have h1 : h[upto h x].X ≤ x := of_decide_eq_true (List.findIdx_getElem (p := fun a : Pr => decide (a.X ≤ x)) (xs := h) (w := h0))
  by_cases e : upto h x = i
  · simpa [e] using h1
  · have := (List.pairwise_iff_getElem.1 hs) (upto h x) i h0 hl (by omega)
    omega
theorem grt_lt {h : List Pr} {y : Int} {i : Nat} (hi : i < grt h y) (hl : i < h.length) : h[i].Y ≤ y := by
  have := List.not_of_lt_findIdx (p := fun a : Pr => decide (y < a.Y)) (xs := h) hi
  simpa using this
theorem grt_ge {h : List Pr} (hs : Stair h) {y : Int} {i : Nat} (hi : grt h y ≤ i) (hl : i < h.length) : y < h[i].Y := by
  have h0 : grt h y < h.length := by omega
  have h1 : y < h[grt h y].Y := of_decide_eq_true (List.findIdx_getElem (p := fun a : Pr => decide (y < a.Y)) (xs := h) (w := h0))
  by_cases e : grt h y = i
  · simpa [e] using h1
  · have := (List.pairwise_iff_getElem.1 hs) (grt h y) i h0 hl (by omega)
    omega
/-- one of the heads may stand behind p just if the last one with a great enough X does -/
theorem behind_iff {h : List Pr} (hs : Stair h) (p : Pr) : (∃ a ∈ h, ab a p) ↔ 0 < upto h p.X ∧ ∃ a, h[upto h p.X - 1]? = some a ∧ p.Y < a.Y := by
  constructor
  · rintro ⟨a, ha, h1, h2⟩
    obtain ⟨i, hi, rfl⟩ := List.getElem_of_mem ha
    have hlt : i < upto h p.X := by
      by_cases c : i < upto h p.X
      · exact c
      · have := upto_ge hs (x := p.X) (i := i) (by omega) hi; omega
    have hle := upto_le h p.X
    refine ⟨by omega, h[upto h p.X - 1], List.getElem?_eq_getElem (by omega), ?_⟩
    by_cases e : i = upto h p.X - 1
    · simpa [← e] using h2
    · have := (List.pairwise_iff_getElem.1 hs) i (upto h p.X - 1) hi (by omega) (by omega)
      omega
  · rintro ⟨h0, a, ha, h1⟩
    obtain ⟨hl, rfl⟩ := List.getElem?_eq_some_iff.1 ha
    exact ⟨_, List.getElem_mem _, upto_lt (by omega) hl, h1⟩
theorem upto_grt {h : List Pr} (hs : Stair h) {p : Pr} (hn : ¬ ∃ a ∈ h, ab a p) : upto h p.X ≤ grt h p.Y := by
  by_cases c : upto h p.X ≤ grt h p.Y
  · exact c
  · exfalso
    have hl := upto_le h p.X
    exact hn ⟨h[grt h p.Y]'(by omega), List.getElem_mem _, upto_lt (by omega) (by omega), grt_ge hs (Nat.le_refl _) (by omega)⟩
theorem ins_stair {h : List Pr} (hs : Stair h) {p : Pr} (hn : ¬ ∃ a ∈ h, ab a p) : Stair (ins h p) := by
  unfold ins Stair
  rw [List.pairwise_append]
  refine ⟨hs.take, ?_, ?_⟩
  · rw [List.pairwise_cons]
    refine ⟨fun a ha => ?_, hs.drop⟩
    obtain ⟨i, hi, rfl⟩ := List.getElem_of_mem ha
    rw [List.length_drop] at hi
    rw [List.getElem_drop]
    have hug := upto_grt hs hn
    exact ⟨upto_ge hs (by omega) (by omega), Int.le_of_lt (grt_ge hs (by omega) (by omega))⟩
  · intro a ha b hb
    obtain ⟨i, hi, rfl⟩ := List.getElem_of_mem ha
    rw [List.length_take] at hi
    rw [List.getElem_take]
    have h1 := upto_lt (h := h) (x := p.X) (i := i) (by omega) (by omega)
    rw [List.mem_cons] at hb
    rcases hb with hb | hb
    · rw [hb]
      refine ⟨Int.le_of_lt h1, ?_⟩
      by_cases c : h[i].Y ≤ p.Y
      · exact c
      · exact absurd ⟨h[i], List.getElem_mem _, h1, by omega⟩ hn
    · obtain ⟨j, hj, rfl⟩ := List.getElem_of_mem hb
      rw [List.length_drop] at hj
      rw [List.getElem_drop]
      have hug := upto_grt hs hn
      exact (List.pairwise_iff_getElem.1 hs) i (grt h p.Y + j) (by omega) (by omega) (by omega)
theorem ins_ab {h : List Pr} (hs : Stair h) {p : Pr} (hn : ¬ ∃ a ∈ h, ab a p) (q : Pr) : (∃ a ∈ ins h p, ab a q) ↔ ab p q ∨ ∃ a ∈ h, ab a q := by
  constructor
  · rintro ⟨a, ha, hq⟩
    unfold ins at ha
    rw [List.mem_append, List.mem_cons] at ha
    rcases ha with ha | rfl | ha
    · exact .inr ⟨a, List.mem_of_mem_take ha, hq⟩
    · exact .inl hq
    · exact .inr ⟨a, List.mem_of_mem_drop ha, hq⟩
  · rintro (hq | ⟨a, ha, hq⟩)
    · exact ⟨p, by simp [ins], hq⟩
    · obtain ⟨i, hi, rfl⟩ := List.getElem_of_mem ha
      by_cases c1 : i < upto h p.X
      · refine ⟨h[i], ?_, hq⟩
        unfold ins
        rw [List.mem_append]
        left
        rw [List.mem_take_iff_getElem]
        exact ⟨i, by omega, rfl⟩
      · by_cases c2 : i < grt h p.Y
        · have h1 := upto_ge hs (x := p.X) (i := i) (by omega) hi
          have h2 := grt_lt (y := p.Y) (i := i) c2 hi
          have := hq.1
          have := hq.2
          exact ⟨p, by simp [ins], by unfold ab; omega⟩
        · refine ⟨h[i], ?_, hq⟩
          unfold ins
          rw [List.mem_append, List.mem_cons]
          right; right
          rw [List.mem_drop_iff_getElem]
          exact ⟨i - grt h p.Y, by omega, by congr 1; omega⟩
/-- one more list of heads, where there is none yet -/
def room (H : List (List Pr)) (n : Nat) : List (List Pr) := if n = H.length then H ++ [[]] else H
theorem Hds.step {t : List Pr} {H : List (List Pr)} (h : Hds t H) {p : Pr} {n : Nat} (hn : n ≤ H.length) (h1 : ∀ m, m < n → Hd t m p) (h2 : ¬ Hd t n p) (g : List Pr) (hg : (room H n)[n]? = some g) :
    Hds (p :: t) ((room H n).set n (ins g p)) ∧ rl (p :: t) = (n + 1) :: rl t ∧ Stair g ∧ ¬ ∃ a ∈ g, ab a p := by
  have hm := mxl_of h h1 h2
  have hr : rl (p :: t) = (n + 1) :: rl t := by rw [rl, hm]
  have hgs : Stair g ∧ ∀ q, (∃ a ∈ g, ab a q) ↔ Hd t n q := by
    unfold room at hg
    by_cases e : n = H.length
    · rw [if_pos e, e, List.getElem?_append_right (Nat.le_refl _)] at hg
      simp at hg
      subst hg
      exact ⟨List.Pairwise.nil, fun q => ⟨by simp, fun hh => absurd hh (h.beyond (by omega) q)⟩⟩
    · rw [if_neg e] at hg
      exact ⟨h.st g (List.mem_of_getElem? hg), h.eq n g hg⟩
  have hna : ¬ ∃ a ∈ g, ab a p := fun c => h2 ((hgs.2 p).1 c)
  have hlen : H.length ≤ (room H n).length ∧ n < (room H n).length := by unfold room; split <;> simp <;> omega
  refine ⟨⟨?_, ?_, ?_⟩, hr, hgs.1, hna⟩
  · intro k hk
    rcases List.mem_or_eq_of_mem_set hk with hk | rfl
    · unfold room at hk
      split at hk
      · rw [List.mem_append, List.mem_singleton] at hk
        rcases hk with hk | rfl
        · exact h.st k hk
        · exact List.Pairwise.nil
      · exact h.st k hk
    · exact ins_stair hgs.1 hna
  · intro m k hk q
    by_cases e : m = n
    · subst e
      rw [List.getElem?_set_self hlen.2] at hk
      cases hk
      rw [ins_ab hgs.1 hna, hgs.2]
      constructor
      · rintro (hq | ⟨j, r, g1, g2, g3⟩)
        · exact ⟨0, p, rfl, by rw [hr]; rfl, hq⟩
        · exact ⟨j + 1, r, by simpa using g1, by rw [hr]; simpa using g2, g3⟩
      · rintro ⟨j, r, g1, g2, g3⟩
        cases j with
        | zero => simp at g1; subst g1; exact .inl g3
        | succ j => exact .inr ⟨j, r, by simpa using g1, by rw [hr] at g2; simpa using g2, g3⟩
    · rw [List.getElem?_set_ne (fun e' => e e'.symm)] at hk
      have hk' : H[m]? = some k := by
        unfold room at hk
        split at hk
        · by_cases hml : m < H.length
          · rwa [List.getElem?_append_left hml] at hk
          · have := (List.getElem?_eq_some_iff.1 hk).1
            simp at this
            omega
        · exact hk
      rw [h.eq m k hk']
      constructor
      · rintro ⟨j, r, g1, g2, g3⟩
        exact ⟨j + 1, r, by simpa using g1, by rw [hr]; simpa using g2, g3⟩
      · rintro ⟨j, r, g1, g2, g3⟩
        cases j with
        | zero => rw [hr] at g2; simp at g2; omega
        | succ j => exact ⟨j, r, by simpa using g1, by rw [hr] at g2; simpa using g2, g3⟩
  · intro m hm'
    rw [hr, List.mem_cons] at hm'
    rw [List.length_set]
    rcases hm' with rfl | hm'
    · omega
    · have := h.top m hm'
      omega
/-- what is picked: the next member of a longest row, from the front -/
def pick : Nat → Option Pr → List Pr → List Nat → List Pr
  | left, last, p :: l, n :: ns => if n = left ∧ (∀ q, last = some q → ab p q) then p :: pick (left - 1) (some p) l ns else pick left last l ns
  | _, _, _, _ => []
/-- the greatest number -/
def mxn : List Nat → Nat
  | [] => 0
  | n :: ns => max n (mxn ns)
/-- a longest rising row -/
def lng (l : List Pr) : List Pr := pick (mxn (rl l)) none l (rl l)
end Go.Proofs.YtnlbjknfahhfaaaGreatDoor

/- How long the longest common row of two rows of numbers is, what is kept, and what follows: plain. -/
set_option maxRecDepth 20000
namespace Go.Proofs.YtnlbjknfahhfaaaGreatDoor

/-- how long the longest common row is -/
def lc : List Int → List Int → Nat
  | [], _ => 0
  | _ :: _, [] => 0
  | a :: x, b :: y => if a = b then lc x y + 1 else max (lc x (b :: y)) (lc (a :: x) y)
theorem lc_nil_left (y : List Int) : lc [] y = 0 := by rw [lc]
theorem lc_nil_right (x : List Int) : lc x [] = 0 := by cases x <;> rw [lc]
theorem lc_cons (a b : Int) (x y : List Int) : lc (a :: x) (b :: y) = if a = b then lc x y + 1 else max (lc x (b :: y)) (lc (a :: x) y) := by rw [lc]
theorem lc_ex (x y : List Int) : ∃ s : List Int, s.Sublist x ∧ s.Sublist y ∧ s.length = lc x y := by
  induction x generalizing y with
  | nil => exact ⟨[], List.Sublist.refl _, List.nil_sublist _, by rw [lc_nil_left]; rfl⟩
  | cons a x ih =>
    induction y with
    | nil => exact ⟨[], List.nil_sublist _, List.Sublist.refl _, by rw [lc_nil_right]; rfl⟩
    | cons b y ihy =>
      rw [lc_cons]
      by_cases h : a = b
      · subst h
        obtain ⟨s, h1, h2, h3⟩ := ih y
        exact ⟨a :: s, h1.cons_cons a, h2.cons_cons a, by rw [if_pos rfl]; simp [h3]⟩
      · rw [if_neg h]
        obtain ⟨s, h1, h2, h3⟩ := ih (b :: y)
        obtain ⟨t, k1, k2, k3⟩ := ihy
        by_cases hm : lc x (b :: y) ≤ lc (a :: x) y
        · exact ⟨t, k1, k2.cons b, by omega⟩
        · exact ⟨s, h1.cons a, h2, by omega⟩
theorem lc_le (s x y : List Int) (hx : s.Sublist x) (hy : s.Sublist y) : s.length ≤ lc x y := by
  induction x generalizing y s with
  | nil => rw [List.sublist_nil.1 hx]; simp
  | cons a x ih =>
    induction y generalizing s with
    | nil => rw [List.sublist_nil.1 hy]; simp
    | cons b y ihy =>
      rw [lc_cons]
      by_cases h : a = b
      · subst h
        rw [if_pos rfl]
        cases hx with
        | cons _ hx =>
          cases hy with
          | cons _ hy => have := ih s y hx hy; omega
          | cons_cons _ hy =>
            rename_i s
            have := ih s y ((List.sublist_cons_self a s).trans hx) hy
            simp; omega
        | cons_cons _ hx =>
          rename_i s
          have : s.Sublist y := by
            cases hy with
            | cons _ hy => exact (List.sublist_cons_self a s).trans hy
            | cons_cons _ hy => exact hy
          have := ih s y hx this
          simp; omega
      · rw [if_neg h]
        cases hx with
        | cons _ hx => have := ih s (b :: y) hx hy; omega
        | cons_cons _ hx =>
          rename_i s
          cases hy with
          | cons _ hy => have := ihy (a :: s) (hx.cons_cons a) hy; omega
          | cons_cons _ hy => exact absurd rfl h
theorem lc_left (x y : List Int) : lc x y ≤ x.length := by
  obtain ⟨s, h1, _, h3⟩ := lc_ex x y
  rw [← h3]; exact h1.length_le
theorem lc_right (x y : List Int) : lc x y ≤ y.length := by
  obtain ⟨s, _, h2, h3⟩ := lc_ex x y
  rw [← h3]; exact h2.length_le
theorem lc_of {x y x' y' : List Int} (h : ∀ s : List Int, s.Sublist x → s.Sublist y → ∃ t : List Int, t.Sublist x' ∧ t.Sublist y' ∧ s.length ≤ t.length) : lc x y ≤ lc x' y' := by
  obtain ⟨s, h1, h2, h3⟩ := lc_ex x y
  obtain ⟨t, k1, k2, k3⟩ := h s h1 h2
  have := lc_le t x' y' k1 k2
  omega
theorem lc_comm (x y : List Int) : lc x y = lc y x := Nat.le_antisymm (lc_of fun s a b => ⟨s, b, a, Nat.le_refl _⟩) (lc_of fun s a b => ⟨s, b, a, Nat.le_refl _⟩)
theorem lc_rev (x y : List Int) : lc x.reverse y.reverse = lc x y := by
  refine Nat.le_antisymm (lc_of fun s a b => ⟨s.reverse, ?_, ?_, by simp⟩) (lc_of fun s a b => ⟨s.reverse, List.reverse_sublist.2 a, List.reverse_sublist.2 b, by simp⟩)
  · have := List.reverse_sublist.2 a; rwa [List.reverse_reverse] at this
  · have := List.reverse_sublist.2 b; rwa [List.reverse_reverse] at this
theorem lc_self (x : List Int) : lc x x = x.length := Nat.le_antisymm (lc_left x x) (lc_le x x x (List.Sublist.refl _) (List.Sublist.refl _))
theorem lc_ahead (c : Int) (x y : List Int) : lc (c :: x) (c :: y) = lc x y + 1 := by rw [lc_cons, if_pos rfl]
theorem lc_mono {x x' y y' : List Int} (hx : x.Sublist x') (hy : y.Sublist y') : lc x y ≤ lc x' y' := lc_of fun s a b => ⟨s, a.trans hx, b.trans hy, Nat.le_refl _⟩
/-- a line more -/
theorem lc_more (p q y : List Int) (c : Int) : lc (p ++ q) y ≤ lc (p ++ c :: q) y ∧ lc (p ++ c :: q) y ≤ lc (p ++ q) y + 1 := by
  refine ⟨lc_mono ((List.Sublist.refl p).append (List.sublist_cons_self c q)) (List.Sublist.refl y), ?_⟩
  obtain ⟨s, h1, h2, h3⟩ := lc_ex (p ++ c :: q) y
  obtain ⟨s1, s2, rfl, k1, k2⟩ := List.sublist_append_iff.1 h1
  cases k2 with
  | cons _ k2 =>
    have := lc_le (s1 ++ s2) (p ++ q) y (k1.append k2) h2
    omega
  | cons_cons _ k2 =>
    rename_i s2
    have := lc_le (s1 ++ s2) (p ++ q) y (k1.append k2) (((List.Sublist.refl s1).append (List.sublist_cons_self c s2)).trans h2)
    simp at h3 this
    omega
/-- rows behind both -/
theorem lc_behind (x y u v : List Int) : lc x y + lc u v ≤ lc (x ++ u) (y ++ v) := by
  obtain ⟨s, h1, h2, h3⟩ := lc_ex x y
  obtain ⟨t, k1, k2, k3⟩ := lc_ex u v
  have := lc_le (s ++ t) (x ++ u) (y ++ v) (h1.append k1) (h2.append k2)
  simp at this
  omega
theorem lc_all (x y : List Int) : lc x y = x.length ↔ x.Sublist y := by
  constructor
  · intro h
    obtain ⟨s, h1, h2, h3⟩ := lc_ex x y
    have : s = x := h1.eq_of_length (by omega)
    rwa [← this]
  · intro h
    exact Nat.le_antisymm (lc_left x y) (lc_le x x y (List.Sublist.refl _) h)
/-- how much of x is found in y, going through y once -/
def gr : List Int → List Int → Nat
  | [], _ => 0
  | _ :: _, [] => 0
  | a :: x, b :: y => if a = b then gr x y + 1 else gr (a :: x) y
theorem gr_le (x y : List Int) : gr x y ≤ x.length := by
  induction y generalizing x with
  | nil => cases x <;> simp [gr]
  | cons b y ih =>
    cases x with
    | nil => simp [gr]
    | cons a x =>
      rw [gr]
      split
      · have := ih x; simp; omega
      · exact ih (a :: x)
theorem gr_all (x y : List Int) : gr x y = x.length ↔ x.Sublist y := by
  induction y generalizing x with
  | nil => cases x <;> simp [gr]
  | cons b y ih =>
    cases x with
    | nil => simp [gr]
    | cons a x =>
      rw [gr]
      by_cases h : a = b
      · subst h
        rw [if_pos rfl]
        have := ih x
        rw [List.cons_sublist_cons, ← this]
        simp
      · rw [if_neg h, ih (a :: x)]
        constructor
        · exact fun h => h.cons b
        · intro k
          cases k with
          | cons _ k => exact k
          | cons_cons _ k => exact absurd rfl h

/-- what is kept: with which of y's members, numbered from b on, each of x's makes a pair -/
def kp (b : Int) : List Int → List Int → List Int
  | [], _ => []
  | _ :: x, [] => -1 :: kp b x []
  | a :: x, c :: y => if a = c then b :: kp (b + 1) x y else if lc (a :: x) y ≤ lc x (c :: y) then -1 :: kp b x (c :: y) else kp (b + 1) (a :: x) y
theorem kp_nil (b : Int) (y : List Int) : kp b [] y = [] := by rw [kp]
theorem kp_none (b : Int) (x : List Int) : kp b x [] = List.replicate x.length (-1) := by
  induction x with
  | nil => rw [kp]; rfl
  | cons a x ih => rw [kp, ih]; rfl
theorem kp_cons (b a c : Int) (x y : List Int) : kp b (a :: x) (c :: y) = if a = c then b :: kp (b + 1) x y else if lc (a :: x) y ≤ lc x (c :: y) then -1 :: kp b x (c :: y) else kp (b + 1) (a :: x) y := by rw [kp]
theorem kp_length (b : Int) (x y : List Int) : (kp b x y).length = x.length := by
  induction x generalizing y b with
  | nil => rw [kp_nil]
  | cons a x ih =>
    induction y generalizing b with
    | nil => rw [kp_none]; simp
    | cons c y ihy =>
      rw [kp_cons]
      split
      · simp [ih]
      split
      · simp [ih]
      · exact ihy _
theorem Vk.up {a b m : Int} {K : List Int} (h : Vk b m K) (hab : a ≤ b) : Vk a m K := by
  induction K with
  | nil => trivial
  | cons z t ih =>
    rcases h with ⟨h1, h2⟩ | ⟨h1, h2, h3⟩
    · exact .inl ⟨h1, ih h2⟩
    · exact .inr ⟨h1, by omega, h3⟩
theorem Vk.none (b m : Int) (k : Nat) : Vk b m (List.replicate k (-1)) := by
  induction k with
  | zero => trivial
  | succ k ih => exact .inl ⟨rfl, ih⟩
theorem kp_vk (b : Int) (x y : List Int) (hb : 0 ≤ b) : Vk b (b + y.length) (kp b x y) := by
  induction x generalizing y b with
  | nil => rw [kp_nil]; trivial
  | cons a x ih =>
    induction y generalizing b with
    | nil => rw [kp_none]; exact Vk.none _ _ _
    | cons c y ihy =>
      rw [kp_cons]
      split
      · refine .inr ⟨by omega, by omega, by simp; omega, ?_⟩
        have := ih (b + 1) y (by omega)
        rw [show b + ((c :: y).length : Int) = b + 1 + (y.length : Int) by simp; omega]
        exact this
      split
      · exact .inl ⟨rfl, ih b (c :: y) hb⟩
      · have := ihy (b + 1) (by omega)
        rw [show b + ((c :: y).length : Int) = b + 1 + (y.length : Int) by simp; omega]
        exact this.up (by omega)
/-- how many pairs a list of what is kept holds -/
def prs (K : List Int) : Nat := (K.filter fun z => decide (0 ≤ z)).length
theorem prs_kp (b : Int) (x y : List Int) (hb : 0 ≤ b) : prs (kp b x y) = lc x y := by
  induction x generalizing y b with
  | nil => rw [kp_nil, lc_nil_left]; rfl
  | cons a x ih =>
    induction y generalizing b with
    | nil =>
      rw [kp_none, lc_nil_right]
      simp [prs]
    | cons c y ihy =>
      rw [kp_cons, lc_cons]
      by_cases h : a = c
      · rw [if_pos h, if_pos h, ← ih (b + 1) y (by omega)]
        simp [prs, hb]
      · rw [if_neg h, if_neg h]
        split
        · have := ih b (c :: y) hb
          rw [show prs (-1 :: kp b x (c :: y)) = prs (kp b x (c :: y)) by simp [prs], this]
          omega
        · rw [ihy (b + 1) (by omega)]
          omega
/-- what is kept is the same -/
theorem kp_same (b : Int) (x y : List Int) (hb : 0 ≤ b) (i : Nat) (z : Int) (h : (kp b x y)[i]? = some z) (hz : 0 ≤ z) : b ≤ z ∧ ∃ c, x[i]? = some c ∧ y[(z - b).toNat]? = some c := by
  induction x generalizing y b i with
  | nil => rw [kp_nil] at h; simp at h
  | cons a x ih =>
    induction y generalizing b i with
    | nil =>
      rw [kp_none] at h
      have := List.eq_of_mem_replicate (List.mem_of_getElem? h)
      omega
    | cons c y ihy =>
      rw [kp_cons] at h
      by_cases e : a = c
      · subst e
        rw [if_pos rfl] at h
        cases i with
        | zero =>
          simp at h
          subst h
          exact ⟨Int.le_refl _, a, by simp, by simp⟩
        | succ i =>
          obtain ⟨h1, d, h2, h3⟩ := ih (b + 1) y (by omega) i (by simpa using h)
          refine ⟨by omega, d, by simpa using h2, ?_⟩
          rw [show (z - b).toNat = (z - (b + 1)).toNat + 1 by omega]
          simpa using h3
      · rw [if_neg e] at h
        split at h
        · cases i with
          | zero => simp at h; omega
          | succ i =>
            obtain ⟨h1, d, h2, h3⟩ := ih b (c :: y) hb i (by simpa using h)
            exact ⟨h1, d, by simpa using h2, h3⟩
        · obtain ⟨h1, d, h2, h3⟩ := ihy (b + 1) (by omega) i h
          refine ⟨by omega, d, h2, ?_⟩
          rw [show (z - b).toNat = (z - (b + 1)).toNat + 1 by omega]
          simpa using h3
/-- how many members are the same at the front -/
def fr : List Int → List Int → Nat
  | a :: x, b :: y => if a = b then fr x y + 1 else 0
  | _, _ => 0
theorem fr_le (x y : List Int) : fr x y ≤ x.length ∧ fr x y ≤ y.length := by
  induction x generalizing y with
  | nil => simp [fr]
  | cons a x ih =>
    cases y with
    | nil => simp [fr]
    | cons b y =>
      have := ih y
      rw [fr]
      split <;> simp <;> omega
theorem fr_lc (x y : List Int) : fr x y + lc (x.drop (fr x y)) (y.drop (fr x y)) = lc x y := by
  induction x generalizing y with
  | nil => simp [fr, lc_nil_left]
  | cons a x ih =>
    cases y with
    | nil => simp [fr, lc_nil_right]
    | cons b y =>
      have := ih y
      rw [fr]
      split
      · rename_i h
        subst h
        rw [lc_ahead]
        simp
        omega
      · simp
theorem fr_at (x y : List Int) (i : Nat) (h : i < fr x y) : x[i]? = y[i]? := by
  induction x generalizing y i with
  | nil => simp [fr] at h
  | cons a x ih =>
    cases y with
    | nil => simp [fr] at h
    | cons b y =>
      rw [fr] at h
      split at h
      · rename_i e
        subst e
        cases i with
        | zero => simp
        | succ i => simpa using ih y i (by omega)
      · omega
theorem fr_step (x y : List Int) (i : Nat) (hx : i < x.length) (hy : i < y.length) : fr (x.drop i) (y.drop i) = if x[i] = y[i] then fr (x.drop (i + 1)) (y.drop (i + 1)) + 1 else 0 := by
  rw [List.drop_eq_getElem_cons hx, List.drop_eq_getElem_cons hy, fr]
/-- a length of two places -/
def ln (x y : List Int) (i j : Nat) : Nat := lc (x.drop i) (y.drop j)
theorem ln_end (x y : List Int) (i j : Nat) (h : x.length ≤ i ∨ y.length ≤ j) : ln x y i j = 0 := by
  rcases h with h | h
  · rw [ln, List.drop_of_length_le h, lc_nil_left]
  · rw [ln, List.drop_of_length_le h, lc_nil_right]
theorem ln_step (x y : List Int) (i j : Nat) (hx : i < x.length) (hy : j < y.length) : ln x y i j = if x[i] = y[j] then ln x y (i + 1) (j + 1) + 1 else max (ln x y (i + 1) j) (ln x y i (j + 1)) := by
  unfold ln
  rw [List.drop_eq_getElem_cons hx, List.drop_eq_getElem_cons hy, lc_cons]
theorem ln_le (x y : List Int) (i j : Nat) : ln x y i j ≤ x.length := by
  have := lc_left (x.drop i) (y.drop j)
  simp at this
  unfold ln
  omega
theorem ln_zero (x y : List Int) : ln x y 0 0 = lc x y := rfl
theorem kp_step (b : Int) (x y : List Int) (i j : Nat) (hx : i < x.length) (hy : j < y.length) : kp b (x.drop i) (y.drop j) = if x[i] = y[j] then b :: kp (b + 1) (x.drop (i + 1)) (y.drop (j + 1)) else if ln x y i (j + 1) ≤ ln x y (i + 1) j then -1 :: kp b (x.drop (i + 1)) (y.drop j) else kp (b + 1) (x.drop i) (y.drop (j + 1)) := by
  unfold ln
  rw [List.drop_eq_getElem_cons hx, List.drop_eq_getElem_cons hy, kp_cons]
theorem kp_same_front (b : Int) (x y : List Int) (i : Nat) (h : i < fr x y) : kp b (x.drop i) (y.drop i) = b :: kp (b + 1) (x.drop (i + 1)) (y.drop (i + 1)) := by
  have h1 := fr_le x y
  rw [kp_step b x y i i (by omega) (by omega), if_pos]
  have := fr_at x y i h
  rw [List.getElem?_eq_getElem (by omega), List.getElem?_eq_getElem (by omega)] at this
  simpa using this
end Go.Proofs.YtnlbjknfahhfaaaGreatDoor
