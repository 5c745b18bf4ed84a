/-
  Texts that belong together, joined: NoCg, NoPr, CxLen, CxR, CxP, CwC, CwD, NoLen, NoWs, NcW, PtL, NcL, CwE, CwF, CwG.
-/
import Derived.Test.YtgiojkhmkeocfaaDoorCtPriA4
import Derived.Test.YtgiojkhmkeocfaaDoorCtPriA2
import Derived.Deep.RegionHeld3
import Derived.Deep.CutBlock
import Derived.Deep.DeepCutAuto
import Derived.Test.YtgiojkhmkeocfaaDoorCtPriA3
import Derived.Lib.IndexAny
import Derived.Laws.RangeAny
import Derived.Shelf.Strings.BuilderK
import Derived.Test.YtgiojkhmkeocfaaDoorProg
import Derived.Lib.AppendIntMem
import Derived.Lib.FrozenHead2

/- The reference's change of the normal form, walked. -/
namespace Go.Proofs.YtgiojkhmkeocfaaDoor
open Go.RowKit

/-- two texts can be joined -/
def Fits (x y : List UInt8) : Prop := x.length + y.length ≤ 4611686018427387904
theorem add_fits {x y : List UInt8} (h : Fits x y) (P : Program) (u : World) : (Op.stringOp .add ⟨x.toArray⟩ ⟨y.toArray⟩).run P u = .ok (.string ⟨(x ++ y).toArray⟩) u := by
  unfold Fits at h
  have e : ¬ (((⟨x.toArray⟩ : ByteArray).size + (⟨y.toArray⟩ : ByteArray).size : Nat) : Int) > IntKind.i64.max := by
    have h1 : (⟨x.toArray⟩ : ByteArray).size = x.length := rfl
    have h2 : (⟨y.toArray⟩ : ByteArray).size = y.length := rfl
    have h3 : IntKind.i64.max = 9223372036854775807 := rfl
    rw [h1, h2, h3]
    omega
  unfold Op.stringOp
  dsimp only
  rw [if_neg e, ba_join]
  rfl
/-- a change in a box, and all below it as it was -/
structure Cs (c : Ch) (b : Nat) (W w : World) : Prop where
  c0 : w.cell? ⟨b, 0, none⟩ = some (.int .i64 c.A)
  c1 : w.cell? ⟨b, 1, none⟩ = some (.int .i64 c.AN)
  c2 : w.cell? ⟨b, 2, none⟩ = some (.int .i64 c.B)
  c3 : w.cell? ⟨b, 3, none⟩ = some (.int .i64 c.BN)
  lt : b < w.heap.size
  low : Below W.heap.size W w
theorem Cs.keep {c : Ch} {b : Nat} {W w w' : World} (h : Cs c b W w) (hb : Below w.heap.size w w') : Cs c b W w' := by
  have hk : ∀ o, w'.cell? ⟨b, o, none⟩ = w.cell? ⟨b, o, none⟩ := fun o => by
    unfold World.cell?
    dsimp only
    rw [hb.block b h.lt]
  exact ⟨(hk 0).trans h.c0, (hk 1).trans h.c1, (hk 2).trans h.c2, (hk 3).trans h.c3, Nat.lt_of_lt_of_le h.lt hb.size, h.low.trans (hb.mono h.low.size)⟩
theorem cs_drew (c : Ch) (b : Nat) (W w : World) : Cs c b W w.drew ↔ Cs c b W w := ⟨fun h => ⟨h.c0, h.c1, h.c2, h.c3, h.lt, (h.low.trans ⟨rfl, rfl, rfl, Nat.le_refl _, fun _ _ => rfl⟩ : Below W.heap.size W w)⟩, fun h => ⟨h.c0, h.c1, h.c2, h.c3, h.lt, h.low.drew⟩⟩
attribute [local simp] cs_drew
theorem Cs.fresh (c : Ch) (w : World) : Cs c w.heap.size w (w.alloc (.cells #[.int .i64 c.A, .int .i64 c.AN, .int .i64 c.B, .int .i64 c.BN] 73)) := by
  have h := heap_alloc_new w (.cells #[.int .i64 c.A, .int .i64 c.AN, .int .i64 c.B, .int .i64 c.BN] 73)
  have hk : ∀ o, (w.alloc (.cells #[.int .i64 c.A, .int .i64 c.AN, .int .i64 c.B, .int .i64 c.BN] 73)).cell? ⟨w.heap.size, o, none⟩ = (#[Value.int .i64 c.A, .int .i64 c.AN, .int .i64 c.B, .int .i64 c.BN])[o]? := fun o => by
    unfold World.cell?
    dsimp only
    rw [h]
    rfl
  exact ⟨hk 0, hk 1, hk 2, hk 3, by rw [World.alloc]; simp, (Below.refl _ w).alloc (Nat.le_refl _) _⟩
end Go.Proofs.YtgiojkhmkeocfaaDoor

/- The reference's Print of the normal form, walked. -/
namespace Go.Proofs.YtgiojkhmkeocfaaDoor
open Go.RowKit

end Go.Proofs.YtgiojkhmkeocfaaDoor

/- How long the context form of a patch is; plain mathematics. -/
namespace Go.Proofs.YtgiojkhmkeocfaaDoor
open Ln

/-- the bytes of lines -/
def txS : List Mk → Nat
  | [] => 0
  | m :: l => m.tx.length + txS l
theorem cln_len (ah s : List UInt8) : (lnL ah s).flatten.length ≤ ah.length + s.length + 29 := by
  unfold lnL
  split
  · simp only [List.flatten_cons, List.flatten_nil, List.length_append, List.length_nil]
    omega
  · simp only [List.flatten_cons, List.flatten_nil, List.length_append, List.length_nil, List.length_cons, markT]
    omega
theorem sid_len (sg : Int) (l : List Mk) : ∀ r a, (sidL sg r a l).flatten.length ≤ 31 * l.length + txS l := by
  induction l with
  | nil => intro r a; exact Nat.le_refl _
  | cons m l ih =>
    intro r a
    simp only [sidL, txS, List.length_cons]
    split
    · have h1 := cln_len [32, 32] m.tx
      have h2 := ih false false
      simp only [List.flatten_append, List.length_append, List.length_cons, List.length_nil] at h1 ⊢
      omega
    · split
      · have h2 := ih (r || decide (m.sg = 45)) (a || decide (m.sg = 43))
        have h1 := cln_len (if ((r || anyS 45 (m :: l)) && (a || anyS 43 (m :: l))) = true then [33, 32] else [UInt8.ofNat sg.toNat, 32]) m.tx
        have h3 : (if ((r || anyS 45 (m :: l)) && (a || anyS 43 (m :: l))) = true then [33, 32] else [UInt8.ofNat sg.toNat, 32]).length = 2 := by split <;> rfl
        rw [h3] at h1
        simp only [List.flatten_append, List.length_append]
        omega
      · have h2 := ih (r || decide (m.sg = 45)) (a || decide (m.sg = 43))
        omega
theorem side_len (sg : Int) (l : List Mk) : (sideL sg l).flatten.length ≤ 31 * l.length + txS l := by
  unfold sideL
  split
  · exact sid_len sg l _ _
  · exact Nat.zero_le _
theorem span_len {p n : Int} (hp : 0 ≤ p) (hb : p ≤ 2147483647) (hn : n ≤ 2147483647) : (spanT p n).length ≤ 61 := by
  have r1 := itoa_short p (by omega) (by omega)
  unfold spanT
  split
  · omega
  · have r2 := itoa_short (p + n - 1) (by omega) (by omega)
    simp only [List.length_append, List.length_cons]
    omega
theorem chk_hi {h : Hk} (hr : rngB h = true) : h.AN ≤ 2147483647 ∧ h.BN ≤ 2147483647 := by
  simp [rngB, nat31] at hr
  omega
theorem hkl_len {h : Hk} (hc : chkH h = 0) : (hkL h).flatten.length ≤ 200 + 62 * h.ls.length + 2 * txS h.ls := by
  obtain ⟨c1, _⟩ := chk_out hc
  obtain ⟨r1, r2, r3, r4, r5, r6, _⟩ := rng_out c1
  obtain ⟨r7, r8⟩ := chk_hi c1
  have s1 := side_len 45 h.ls
  have s2 := side_len 43 h.ls
  have s3 := span_len r1 r2 r7
  have s4 := span_len r4 r5 r8
  simp only [hkL, rlT, starsT, List.flatten_cons, List.flatten_append, List.length_append, List.length_cons, List.length_nil]
  omega
/-- the lines and bytes of hunks -/
def hsS : List Hk → Nat
  | [] => 0
  | h :: l => 200 + 62 * h.ls.length + 2 * txS h.ls + hsS l
theorem hks_len {l : List Hk} (h : ∀ x ∈ l, chkH x = 0) : (l.flatMap hkL).flatten.length ≤ hsS l := by
  induction l with
  | nil => exact Nat.le_refl _
  | cons x l ih =>
    have h1 := ih fun y hy => h y (by simp [hy])
    have h2 := hkl_len (h x (by simp))
    simp only [List.flatMap_cons, List.flatten_append, List.length_append, hsS]
    omega
theorem name_len (n : List UInt8) : (nameT n).length ≤ 3 * n.length + 11 := by
  unfold nameT
  split
  · simp only [devN, List.length_cons, List.length_nil]
    omega
  · split
    · omega
    · have := Q.quote_length n
      omega
theorem ptl_len {p : Pth} (h : ∀ x ∈ p.hs, chkH x = 0) : (ptL p).flatten.length ≤ 32 + 3 * p.old.length + 3 * p.new.length + hsS p.hs := by
  unfold ptL
  split
  · exact Nat.zero_le _
  · have h1 := hks_len h
    have h2 := name_len p.old
    have h3 := name_len p.new
    simp only [List.flatten_cons, List.length_append, List.length_cons, List.length_nil]
    omega
theorem cerrs_out {l : List Hk} (h : errs l = 0) : ∀ x ∈ l, chkH x = 0 := by
  induction l with
  | nil => intro x hx; cases hx
  | cons y l ih =>
    simp only [errs] at h
    split at h
    · rename_i hq
      exact absurd h hq
    · rename_i hq
      intro x hx
      rcases List.mem_cons.1 hx with rfl | hx
      · omega
      · exact ih h x hx
theorem wrg_out {p : Pth} (h : wrgP p = 0) : p.old.length ≤ 64 ∧ p.new.length ≤ 64 ∧ p.hs.length ≤ 4096 ∧ ∀ x ∈ p.hs, chkH x = 0 := by
  unfold wrgP at h
  split at h
  · cases h
  · split at h
    · cases h
    · exact ⟨by omega, by omega, by omega, cerrs_out h⟩
theorem pt_len (p : Pth) : (ptT p).length ≤ 416 + hsS p.hs := by
  unfold ptT
  split
  · rename_i h
    obtain ⟨h1, h2, _, h4⟩ := wrg_out h
    have := ptl_len h4
    omega
  · exact Nat.zero_le _
end Go.Proofs.YtgiojkhmkeocfaaDoor

/- The context form: a side's lines one by one, by what lies ahead of a place and behind it (the reference's way); plain mathematics. -/
namespace Go.Proofs.YtgiojkhmkeocfaaDoor

/-- does the piece that ends a list have a sign? -/
def endS (sg : Int) (P : List Mk) : Bool := anyS sg P.reverse
theorem ends_snoc (sg : Int) (P : List Mk) (m : Mk) : endS sg (P ++ [m]) = if m.sg = 32 then false else endS sg P || decide (m.sg = sg) := by
  unfold endS
  rw [List.reverse_append]
  simp only [List.reverse_cons, List.reverse_nil, List.nil_append, List.cons_append, anyS]
  split
  · rfl
  · exact Bool.or_comm _ _
/-- does the piece around a place have both signs? -/
def bothM (P S : List Mk) : Bool := (endS 45 P || anyS 45 S) && (endS 43 P || anyS 43 S)
/-- what a line makes of a side -/
def lineS (sg : Int) (P : List Mk) (m : Mk) (S : List Mk) : List (List UInt8) := if m.sg = 32 then lnL [32, 32] m.tx else if m.sg = sg then lnL (if bothM P (m :: S) = true then [33, 32] else [UInt8.ofNat sg.toNat, 32]) m.tx else []
/-- a side from a place on -/
def fromS (sg : Int) (P S : List Mk) : List (List UInt8) := sidL sg (endS 45 P) (endS 43 P) S
theorem from_cons (sg : Int) (P : List Mk) (m : Mk) (S : List Mk) : fromS sg P (m :: S) = lineS sg P m S ++ fromS sg (P ++ [m]) S := by
  unfold fromS lineS
  simp only [sidL, ends_snoc]
  by_cases h : m.sg = 32
  · rw [if_pos h, if_pos h, if_pos h, if_pos h]
  · rw [if_neg h, if_neg h, if_neg h, if_neg h]
    by_cases h2 : m.sg = sg
    · rw [if_pos h2, if_pos h2]
      rfl
    · rw [if_neg h2, if_neg h2]
      rfl
theorem from_all (sg : Int) (l : List Mk) : fromS sg [] l = sidL sg false false l := rfl
end Go.Proofs.YtgiojkhmkeocfaaDoor

/- The context form: the signs with which the code shows lines; plain mathematics. -/
namespace Go.Proofs.YtgiojkhmkeocfaaDoor
open Ln

def chgM (l : List Mk) : List Mk := l.takeWhile fun m => m.sg != 32
def rstM (l : List Mk) : List Mk := l.dropWhile fun m => m.sg != 32
/- signs that are shown -/
def shwL : Bool → Bool → List Mk → List Int
  | _, _, [] => []
  | r, a, m :: l => if m.sg = 32 then 32 :: shwL false false l else (if ((r || anyS 45 (m :: l)) && (a || anyS 43 (m :: l))) = true then 33 else m.sg) :: shwL (r || decide (m.sg = 45)) (a || decide (m.sg = 43)) l
theorem shw_len (l : List Mk) : ∀ r a, (shwL r a l).length = l.length := by
  induction l with
  | nil => intro r a; rfl
  | cons m l ih =>
    intro r a
    simp only [shwL]
    split <;> simp [ih]
/-- the lines of a side behind given signs -/
def sidZ (sg : Int) : List Mk → List Int → List (List UInt8)
  | m :: l, c :: sh => (if m.sg = 32 ∨ m.sg = sg then lnL [UInt8.ofNat c.toNat, 32] m.tx else []) ++ sidZ sg l sh
  | _, _ => []
theorem sid_shw (sg : Int) (l : List Mk) : ∀ r a, sidZ sg l (shwL r a l) = sidL sg r a l := by
  induction l with
  | nil => intro r a; rfl
  | cons m l ih =>
    intro r a
    simp only [shwL, sidL]
    by_cases h : m.sg = 32
    · rw [if_pos h, if_pos h]
      simp only [sidZ]
      rw [if_pos (.inl h), ih]
      rfl
    · rw [if_neg h, if_neg h]
      simp only [sidZ]
      rw [ih]
      by_cases h2 : m.sg = sg
      · rw [if_pos (.inr h2), if_pos h2, h2]
        split <;> rfl
      · rw [if_neg (fun q => q.elim h h2), if_neg h2]
        rfl
def hasM (k : Int) (l : List Mk) : Bool := l.any fun m => m.sg == k
/-- a piece is shown with one sign for all, or its own ones -/
def mixM (c : List Mk) : List Int := c.map fun m => if (hasM 45 c && hasM 43 c) = true then 33 else m.sg
theorem anyS_chg (sg : Int) (l : List Mk) : anyS sg l = hasM sg (chgM l) := by
  induction l with
  | nil => rfl
  | cons m l ih =>
    simp only [anyS, chgM, List.takeWhile_cons]
    by_cases h : m.sg = 32
    · rw [if_pos h]
      have : (m.sg != 32) = false := by simp [h]
      rw [this]
      rfl
    · rw [if_neg h, ih]
      have : (m.sg != 32) = true := by simp [h]
      rw [this]
      simp only [hasM, if_true, List.any_cons, chgM]
      rfl
/-- what is shown behind a piece -/
def tlM : List Mk → List Int
  | [] => []
  | _ :: t => 32 :: shwL false false t
theorem shw_piece (l : List Mk) : ∀ r a, shwL r a l = (chgM l).map (fun m => if ((r || hasM 45 (chgM l)) && (a || hasM 43 (chgM l))) = true then 33 else m.sg) ++ tlM (rstM l) := by
  induction l with
  | nil => intro r a; rfl
  | cons m l ih =>
    intro r a
    by_cases h : m.sg = 32
    · have h1 : (m.sg != 32) = false := by simp [h]
      have e1 : chgM (m :: l) = [] := by simp only [chgM, List.takeWhile_cons, h1]; rfl
      have e2 : rstM (m :: l) = m :: l := by simp only [rstM, List.dropWhile_cons, h1]; rfl
      rw [e1, e2]
      simp only [shwL]
      rw [if_pos h]
      rfl
    · have h1 : (m.sg != 32) = true := by simp [h]
      have e1 : chgM (m :: l) = m :: chgM l := by simp only [chgM, List.takeWhile_cons, h1]; rfl
      have e2 : rstM (m :: l) = rstM l := by simp only [rstM, List.dropWhile_cons, h1]; rfl
      simp only [shwL]
      rw [if_neg h, anyS_chg 45, anyS_chg 43, ih, e1, e2]
      have q : ∀ k : Int, hasM k (m :: chgM l) = (decide (m.sg = k) || hasM k (chgM l)) := fun k => by
        simp only [hasM, List.any_cons]
        rfl
      rw [q, q]
      simp only [List.map_cons, List.cons_append, Bool.or_assoc]
theorem shw_step (l : List Mk) : shwL false false l = mixM (chgM l) ++ tlM (rstM l) := by
  rw [shw_piece]
  simp only [Bool.false_or]
  rfl
theorem chg_rstM (l : List Mk) : chgM l ++ rstM l = l := List.takeWhile_append_dropWhile
end Go.Proofs.YtgiojkhmkeocfaaDoor

/- slices.IndexFunc, slices.ContainsFunc for a function value that may hold a variable; the code's isKept, has, piece of layer 15, walked. -/
namespace Go.Proofs.YtgiojkhmkeocfaaDoor
open Ln Go.RowKit

/-- where the first one is, or -1 -/
def idxI (p : Mk → Bool) : Nat → List Mk → Int
  | _, [] => -1
  | k, m :: l => if p m = true then (k : Int) else idxI p (k + 1) l
theorem idxI_any (p : Mk → Bool) (l : List Mk) : ∀ k, decide (0 ≤ idxI p k l) = l.any p := by
  induction l with
  | nil => intro k; rfl
  | cons m l ih =>
    intro k
    rw [List.any_cons]
    by_cases h : p m = true
    · have e : idxI p k (m :: l) = (k : Int) := if_pos h
      rw [e, h]
      simp
    · have e : idxI p k (m :: l) = idxI p (k + 1) l := if_neg h
      rw [e, ih, Bool.eq_false_iff.2 h]
      rfl
theorem chgM_ne {m : Mk} {l : List Mk} (h : m.sg ≠ 32) : chgM (m :: l) = m :: chgM l ∧ rstM (m :: l) = rstM l := by
  have h1 : (m.sg != 32) = true := by simp [h]
  constructor
  · simp only [chgM, List.takeWhile_cons, h1]; rfl
  · simp only [rstM, List.dropWhile_cons, h1]; rfl
theorem chgM_eq {m : Mk} {l : List Mk} (h : m.sg = 32) : chgM (m :: l) = [] ∧ rstM (m :: l) = m :: l := by
  have h1 : (m.sg != 32) = false := by simp [h]
  constructor
  · simp only [chgM, List.takeWhile_cons, h1]; rfl
  · simp only [rstM, List.dropWhile_cons, h1]; rfl
theorem idxI_chg (l : List Mk) : ∀ k, idxI (fun m => m.sg == 32) k l = if rstM l = [] then -1 else (k : Int) + (chgM l).length := by
  induction l with
  | nil => intro k; rfl
  | cons m l ih =>
    intro k
    by_cases h : m.sg = 32
    · have e : idxI (fun m => m.sg == 32) k (m :: l) = (k : Int) := if_pos (by simp [h])
      rw [e, (chgM_eq h).1, (chgM_eq h).2, if_neg (by simp)]
      simp
    · have e : idxI (fun m => m.sg == 32) k (m :: l) = idxI (fun m => m.sg == 32) (k + 1) l := if_neg (by simp [h])
      rw [e, ih, (chgM_ne h).1, (chgM_ne h).2]
      by_cases hq : rstM l = []
      · rw [if_pos hq, if_pos hq]
      · rw [if_neg hq, if_neg hq]
        simp only [List.length_cons]; omega
theorem idxI_drop {p : Mk → Bool} {l : List Mk} {k : Nat} (hk : k < l.length) : idxI p k (l.drop k) = if p l[k] = true then (k : Int) else idxI p (k + 1) (l.drop (k + 1)) := by
  rw [List.drop_eq_getElem_cons hk]
  rfl
set_option maxRecDepth 10000 in
set_option maxHeartbeats 2000000 in
theorem cIdx_f (g : Nat) (cap : Array Value) (l : List Mk) (p : Mk → Bool) (v : Value) (w : World) (hv : HMk w v l) (hl : l.length ≤ 1099511627776) (eg : ∀ args w, (callFunc g args).run Tryd.prog w = .ok (.enter g args) w)
    (hf : Hid (∀ m ∈ l, ∀ u : World, Below w.heap.size w u → Calls Tryd.prog g (#[.agg #[.int .u8 m.sg, .string ⟨m.tx.toArray⟩]] ++ cap) u fun e u' => e = .returned (.bool (p m)) ∧ Below u.heap.size u u')) (z : Int) (HR : Hid (idxI p 0 l = z)) :
    Calls Tryd.prog 89 #[v, .func (.func g) #[] cap] w fun e w' => e = .returned (.int .i64 z) ∧ Below w.heap.size w w' := by
  obtain ⟨lo, lc, rfl⟩ := HMk.form hv
  go_enter Tryd.func89, Tryd.ntmps89
  go_wp2
  go_loopw [5, 8] (fun _ i wr => ∃ k : Nat, k ≤ l.length ∧ i = .int .i64 k ∧ Below w.heap.size w wr ∧ Hid (idxI p k (l.drop k) = z)) (fun _ i _ => l.length - (intOf i).toNat)
  case atStart => exact ⟨0, Nat.zero_le _, rfl, Below.refl _ _, HR⟩
  case round =>
    obtain ⟨k, hk, rfl, hB, HI⟩ := hrel
    clear HR
    by_cases hlt : k < l.length
    · obtain ⟨b, off, rfl, hb, _⟩ := HMk.at hv (by omega)
      obtain ⟨m, hm⟩ : ∃ m, l[k] = m := ⟨_, rfl⟩
      obtain ⟨c0, c1⟩ := Low.mk hB hv k hlt hm
      have hc := hf.out m (by rw [← hm]; exact List.getElem_mem hlt) wr hB
      have i1 : 0 ≤ (k : Int) := by omega
      have i2 : (k : Int) < (l.length : Int) := by omega
      have HI2 : Hid ((if p m = true then (k : Int) else idxI p (k + 1) (l.drop (k + 1))) = z) := (by
        have h := HI.out
        rw [idxI_drop hlt, hm] at h
        exact h)
      obtain ⟨q, hq⟩ : ∃ q, p m = q := ⟨_, rfl⟩
      rw [hq] at hc HI2
      clear HI hm hq
      cases q with
      | true =>
        have HE : Hid ((k : Int) = z) := (by have h := HI2.out; rw [if_pos rfl] at h; exact h)
        clear HI2
        go_wp2_with (go_at_fn g; refine hc.mono ?_; rintro e w' ⟨rfl, hB1⟩)
        go_ret
        exact ⟨by rw [HE.out]; rfl, hB.trans (hB1.mono hB.size)⟩
      | false =>
        have HE : Hid (idxI p (k + 1) (l.drop (k + 1)) = z) := (by have h := HI2.out; rw [if_neg (by decide)] at h; exact h)
        clear HI2
        go_wp2_with (go_at_fn g; refine hc.mono ?_; rintro e w' ⟨rfl, hB1⟩)
        exact ⟨⟨k + 1, by omega, by go_num, hB.trans (hB1.mono hB.size), HE⟩, by simp [intOf]; omega⟩
    · have HE : Hid (-1 = z) := (by
        have h := HI.out
        rw [List.drop_of_length_le (by omega)] at h
        exact h)
      clear HI
      have hend : decide ((k : Int) < (l.length : Int)) = false := decide_eq_false (by omega)
      go_wp2
      go_ret
      exact ⟨by rw [HE.out]; rfl, hB⟩
set_option maxHeartbeats 1000000 in
theorem cContains_f (g : Nat) (cap : Array Value) (l : List Mk) (p : Mk → Bool) (v : Value) (w : World) (hv : HMk w v l) (hl : l.length ≤ 1099511627776) (eg : ∀ args w, (callFunc g args).run Tryd.prog w = .ok (.enter g args) w)
    (hf : Hid (∀ m ∈ l, ∀ u : World, Below w.heap.size w u → Calls Tryd.prog g (#[.agg #[.int .u8 m.sg, .string ⟨m.tx.toArray⟩]] ++ cap) u fun e u' => e = .returned (.bool (p m)) ∧ Below u.heap.size u u')) (r : Bool) (HR : Hid (l.any p = r)) :
    Calls Tryd.prog 46 #[v, .func (.func g) #[] cap] w fun e w' => e = .returned (.bool r) ∧ Below w.heap.size w w' := by
  obtain ⟨z, hz⟩ : ∃ z, idxI p 0 l = z := ⟨_, rfl⟩
  have HC := cIdx_f g cap l p v w hv hl eg hf z hz
  have HZ : Hid (decide (0 ≤ z) = r) := (by show _ = _; rw [← hz, idxI_any]; exact HR.out)
  clear hz HR
  obtain ⟨lo, lc, rfl⟩ := HMk.form hv
  go_enter Tryd.func46, Tryd.ntmps46
  go_wp2_with fail
  refine HC.mono ?_
  rintro e w1 ⟨rfl, hB⟩
  go_wp2
  go_ret
  exact ⟨by rw [HZ.out]; rfl, hB⟩
set_option maxHeartbeats 1000000 in
theorem cisKept_f (m : Mk) (w : World) : Calls Tryd.prog 157 #[.agg #[.int .u8 m.sg, .string ⟨m.tx.toArray⟩]] w fun e w' => e = .returned (.bool (m.sg == 32)) ∧ Below w.heap.size w w' := by
  have hBl : Below w.heap.size w (w.alloc (.cells #[.int .u8 m.sg, .string ⟨m.tx.toArray⟩] 91)) := (Below.refl _ w).alloc (Nat.le_refl _) _
  go_enter Tryd.func157, Tryd.ntmps157
  go_wp2
  go_ret
  exact ⟨rfl, hBl⟩
set_option maxHeartbeats 1000000 in
theorem chas1_f (k : Int) (X : Nat) (m : Mk) (w : World) (cX : w.cell? ⟨X, 0, none⟩ = some (.int .u8 k)) (hX : X < w.heap.size) : Calls Tryd.prog 158 #[.agg #[.int .u8 m.sg, .string ⟨m.tx.toArray⟩], .pointer (some ⟨X, 0, none⟩)] w fun e w' => e = .returned (.bool (m.sg == k)) ∧ Below w.heap.size w w' := by
  have hBl : Below w.heap.size w (w.alloc (.cells #[.int .u8 m.sg, .string ⟨m.tx.toArray⟩] 91)) := (Below.refl _ w).alloc (Nat.le_refl _) _
  have cX2 : (w.alloc (.cells #[.int .u8 m.sg, .string ⟨m.tx.toArray⟩] 91)).cell? ⟨X, 0, none⟩ = some (.int .u8 k) := (World.cell?_of_block (w := w) (hBl.block X hX)).trans cX
  go_enter Tryd.func158, Tryd.ntmps158
  go_wp2
  go_ret
  exact ⟨rfl, hBl⟩
set_option maxHeartbeats 1000000 in
theorem chas_f (k : Int) (l : List Mk) (v : Value) (w : World) (hv : HMk w v l) (hl : l.length ≤ 1099511627776) (r : Bool) (HR : Hid (hasM k l = r)) :
    Calls Tryd.prog 130 #[v, .int .u8 k] w fun e w' => e = .returned (.bool r) ∧ Below w.heap.size w w' := by
  have hBl : Below w.heap.size w (w.alloc (.cells #[.int .u8 k] 5)) := (Below.refl _ w).alloc (Nat.le_refl _) _
  have cX : (w.alloc (.cells #[.int .u8 k] 5)).cell? ⟨w.heap.size, 0, none⟩ = some (.int .u8 k) := (by rw [Lib.cell_of_heap (heap_alloc_new w _)]; rfl)
  have hsz : (w.alloc (.cells #[.int .u8 k] 5)).heap.size = w.heap.size + 1 := by simp
  have hv1 : HMk (w.alloc (.cells #[.int .u8 k] 5)) v l := hv.keep hBl (Nat.le_refl _)
  have HC : Hid (Calls Tryd.prog 46 #[v, .func (.func 158) #[] #[.pointer (some ⟨w.heap.size, 0, none⟩)]] (w.alloc (.cells #[.int .u8 k] 5)) fun e w' => e = .returned (.bool r) ∧ Below w.heap.size w w') := (by
    refine (cContains_f 158 #[.pointer (some ⟨w.heap.size, 0, none⟩)] l (fun m => m.sg == k) v _ hv1 hl (enters_of Tryd.func158 (by kernel_rfl) rfl) ?_ r HR).mono ?_
    · intro m _ u hu
      refine chas1_f k w.heap.size m u ((World.cell?_of_block (hu.block w.heap.size (by rw [hsz]; omega))).trans cX) (Nat.lt_of_lt_of_le (by rw [hsz]; omega) hu.size)
    · rintro e w' ⟨h1, h2⟩
      exact ⟨h1, hBl.trans (h2.mono (by rw [hsz]; omega))⟩)
  obtain ⟨lo, lc, rfl⟩ := HMk.form hv
  clear cX hsz hv1 HR hBl
  have hmf : ∀ (fn : Fn) (first cap : Array Value) (w : World), (Instr.makeFunc fn first cap).run Tryd.prog w = .ok (.func fn first cap) w := fun _ _ _ _ => rfl
  go_enter Tryd.func130, Tryd.ntmps130
  go_wp2_with fail
  refine HC.out.mono ?_
  rintro e w1 ⟨rfl, hB⟩
  go_wp2
  go_ret
  exact ⟨rfl, hB⟩
/-- the lines at the front that are not kept, as a slice of the same row -/
theorem chg_take (l : List Mk) : l.take (chgM l).length = chgM l := by
  have h := chg_rstM l
  have h2 : (chgM l ++ rstM l).take (chgM l).length = chgM l := List.take_left
  rw [h] at h2
  exact h2
theorem chg_le (l : List Mk) : (chgM l).length ≤ l.length := by
  have h := congrArg List.length (chg_rstM l)
  rw [List.length_append] at h
  omega
theorem rst_nil {l : List Mk} (h : rstM l = []) : chgM l = l := by
  have h1 := chg_rstM l
  rw [h, List.append_nil] at h1
  exact h1
/-- l[:k], l[k:] of a slice of lines with signs -/
def mslF (ao : Option Addr) (cap k : Nat) : Option Addr := if cap = k then ao else ao.map (·.add (k * 2))
theorem run_mF (ao : Option Addr) (n cap k : Nat) (hk : k ≤ n) (_ : n ≤ cap) (u : World) : (Instr.slice 41 (.slice ao n cap) (some (.int .i64 (k : Int))) none none).run Tryd.prog u = .ok (.slice (mslF ao cap k) (n - k) (cap - k)) u := by
  rw [run_slice_l (P := Tryd.prog) u 41 ao n cap (by kernel_rfl) .i64 k (by omega) (by omega)]
  have : (sizeOf (Tryd.prog.elem 41)).run Tryd.prog u = .ok 2 u := by kernel_rfl
  rw [this]
  simp [Result.andThen, sliced, mslF]
theorem maddr_zero (ad : Addr) : ad.add 0 = ad := by unfold Addr.add; split <;> simp_all
theorem run_mT (ao : Option Addr) (n cap k : Nat) (hk : k ≤ n) (hn : n ≤ cap) (u : World) : (Instr.slice 41 (.slice ao n cap) none (some (.int .i64 (k : Int))) none).run Tryd.prog u = .ok (.slice ao k cap) u := by
  rw [run_slice_h (P := Tryd.prog) u 41 ao n cap (by kernel_rfl) .i64 k (by omega) (by omega)]
  have : (sizeOf (Tryd.prog.elem 41)).run Tryd.prog u = .ok 2 u := by kernel_rfl
  rw [this]
  cases ao with
  | none => simp [Result.andThen, sliced]
  | some ad => simp [Result.andThen, sliced, maddr_zero]
theorem mhold_cap {w : World} {ao : Option Addr} {n c : Nat} {xs : List Value} (h : Holds w (.slice ao n c) n xs) : n ≤ c := by
  rcases h with ⟨h, h0, _⟩ | ⟨ad, c', h, h3, _⟩
  · omega
  · cases h; exact h3
theorem mkcells_take (l : List Mk) (k : Nat) : (mkcells l).take (k * 2) = mkcells (l.take k) := by
  induction k generalizing l with
  | zero => simp [mkcells]
  | succ k ih =>
    cases l with
    | nil => simp [mkcells]
    | cons m l =>
      have e : (k + 1) * 2 = k * 2 + 1 + 1 := by omega
      have h1 : mkcells (m :: l) = .int .u8 m.sg :: .string ⟨m.tx.toArray⟩ :: mkcells l := rfl
      have h2 : mkcells ((m :: l).take (k + 1)) = .int .u8 m.sg :: .string ⟨m.tx.toArray⟩ :: mkcells (l.take k) := rfl
      rw [e, h1, h2, List.take_succ_cons, List.take_succ_cons, ih]
theorem mkcells_drop (l : List Mk) (k : Nat) : (mkcells l).drop (k * 2) = mkcells (l.drop k) := by
  induction k generalizing l with
  | zero => simp
  | succ k ih =>
    cases l with
    | nil => simp [mkcells]
    | cons m l =>
      have e : (k + 1) * 2 = k * 2 + 1 + 1 := by omega
      have h1 : mkcells (m :: l) = .int .u8 m.sg :: .string ⟨m.tx.toArray⟩ :: mkcells l := rfl
      rw [e, h1, List.drop_succ_cons, List.drop_succ_cons, ih]
      rfl
theorem mk_to {w : World} {ao : Option Addr} {c : Nat} {l : List Mk} (h : HMk w (.slice ao l.length c) l) (k : Nat) (hk : k ≤ l.length) : HMk w (.slice ao k c) (l.take k) := by
  have hlt : (l.take k).length = k := by rw [List.length_take]; omega
  unfold HMk at h ⊢
  rw [hlt]
  rcases h with ⟨h, h0, h4⟩ | ⟨ad, c', h, h3, hc⟩
  · have hl0 : l = [] := List.eq_nil_of_length_eq_zero h0
    subst hl0
    cases h
    have hk0 : k = 0 := by simpa using hk
    subst hk0
    exact .inl ⟨by simp, rfl, by simp [mkcells]⟩
  · cases h
    refine .inr ⟨ad, c, rfl, by omega, fun j v hj => hc j v ?_⟩
    rw [← mkcells_take] at hj
    by_cases hjk : j < k * 2
    · rw [List.getElem?_take_of_lt hjk] at hj
      exact hj
    · rw [List.getElem?_eq_none (by simp; omega)] at hj
      cases hj
theorem mk_from {w : World} {ao : Option Addr} {c : Nat} {l : List Mk} (h : HMk w (.slice ao l.length c) l) (k : Nat) (hk : k ≤ l.length) : HMk w (.slice (mslF ao c k) (l.length - k) (c - k)) (l.drop k) := by
  have hlt : (l.drop k).length = l.length - k := by rw [List.length_drop]
  have hnc := mhold_cap h
  unfold HMk at h ⊢
  rw [hlt]
  rcases h with ⟨h, h0, h4⟩ | ⟨ad, c', h, h3, hc⟩
  · have hl0 : l = [] := List.eq_nil_of_length_eq_zero h0
    subst hl0
    cases h
    have hk0 : k = 0 := by simpa using hk
    subst hk0
    exact .inl ⟨by simp [mslF], rfl, by simp [mkcells]⟩
  · cases h
    refine .inr ⟨if c = k then ad else ad.add (k * 2), c - k, by unfold mslF; split <;> simp, by omega, fun j v hj => ?_⟩
    rw [← mkcells_drop, List.getElem?_drop] at hj
    have hlt2 := (List.getElem?_eq_some_iff.1 hj).1
    rw [mkcells_length] at hlt2
    rw [if_neg (by omega)]
    have h0 := hc 0 _ (List.getElem?_eq_getElem (by rw [mkcells_length]; omega))
    obtain ⟨b, off, rfl⟩ := addr_of h0
    have := hc _ _ hj
    rw [add_none] at this
    rw [add_none, add_none, Nat.add_assoc]
    exact this
set_option maxHeartbeats 1000000 in
theorem cpiece_f (l : List Mk) (ao : Option Addr) (c : Nat) (w : World) (hv : HMk w (.slice ao l.length c) l) (hl : l.length ≤ 1099511627776) (n : Nat) (HN : Hid ((chgM l).length = n)) :
    Calls Tryd.prog 129 #[.slice ao l.length c] w fun e w' => e = .returned (.slice ao n c) ∧ Below w.heap.size w w' := by
  have hnc := mhold_cap hv
  have hle := chg_le l
  rw [HN.out] at hle
  have hc := fun z HZ => cIdx_f 157 #[] l (fun m => m.sg == 32) (.slice ao l.length c) w hv hl (enters_of Tryd.func157 (by kernel_rfl) rfl) (fun m _ u _ => cisKept_f m u) z HZ
  by_cases hr : rstM l = []
  · have HE : Hid (l.length = n) := (by show _ = _; rw [← HN.out, rst_nil hr])
    have hc1 := hc (-1) (by show _ = _; rw [idxI_chg, if_pos hr])
    clear HN hr hc hv
    go_enter Tryd.func129, Tryd.ntmps129
    go_wp2_with fail
    refine hc1.mono ?_
    rintro e w1 ⟨rfl, hB⟩
    go_wp2
    go_ret
    exact ⟨by rw [HE.out]; rfl, hB⟩
  · have hc1 := hc (n : Int) (by show _ = _; rw [idxI_chg, if_neg hr, HN.out]; simp)
    have hs := run_mT ao l.length c n hle hnc
    have i1 : (0 : Int) ≤ (n : Int) := by omega
    have i2 : (n : Int) ≤ (l.length : Int) := by omega
    have i3 : (n : Int) ≤ (c : Int) := by omega
    clear HN hr hc hv
    go_enter Tryd.func129, Tryd.ntmps129
    go_wp2_with fail
    refine hc1.mono ?_
    rintro e w1 ⟨rfl, hB⟩
    go_wp2
    go_ret
    exact ⟨rfl, hB⟩
end Go.Proofs.YtgiojkhmkeocfaaDoor

/- Names as the code writes them in a patch (layer 15), walked. -/
namespace Go.Proofs.YtgiojkhmkeocfaaDoor
open Go.RowKit
attribute [local go_sem] ByteArray.extract_mk

def oddI (r : Int) : Bool := decide (r < 33) || decide (126 < r) || decide (r = 34)
set_option maxHeartbeats 1000000 in
theorem cisOdd_f (r : Int) (w : World) (q : Bool) (HQ : Hid (oddI r = q)) : Calls Tryd.prog 92 #[.int .i32 r] w fun e w' => e = .returned (.bool q) ∧ w = w' := by
  by_cases h1 : r < 33
  · have HE : Hid (true = q) := (by show _ = _; rw [← HQ.out]; simp [oddI, h1])
    go_enter Tryd.func92, Tryd.ntmps92
    go_wp2
    go_ret
    exact ⟨by rw [← HE.out]; rfl, rfl⟩
  · by_cases h2 : 126 < r
    · have HE : Hid (true = q) := (by show _ = _; rw [← HQ.out]; simp [oddI, h2])
      go_enter Tryd.func92, Tryd.ntmps92
      go_wp2
      go_ret
      exact ⟨by rw [← HE.out]; rfl, rfl⟩
    · have HE : Hid ((r == 34) = q) := (by show _ = _; rw [← HQ.out]; simp only [oddI, h1, h2, decide_false, Bool.false_or]; rfl)
      go_enter Tryd.func92, Tryd.ntmps92
      go_wp2
      go_ret
      exact ⟨by rw [← HE.out]; rfl, rfl⟩
theorem odd_name (c : UInt8) : oddI (c.toNat : Int) = !nameC c := by
  unfold oddI nameC
  rw [Bool.eq_iff_iff]
  simp only [Bool.or_eq_true, decide_eq_true_eq, Bool.not_eq_true', decide_eq_false_iff_not]
  omega
/-- where the first odd byte is, or -1 -/
def oddW : Nat → List UInt8 → Int
  | _, [] => -1
  | k, c :: l => if nameC c = true then oddW (k + 1) l else (k : Int)
theorem oddW_all (l : List UInt8) : ∀ k, decide (0 ≤ oddW k l) = !l.all nameC := by
  induction l with
  | nil => intro k; rfl
  | cons c l ih =>
    intro k
    rw [List.all_cons]
    by_cases h : nameC c = true
    · have e : oddW k (c :: l) = oddW (k + 1) l := if_pos h
      rw [e, ih, h]
      rfl
    · have e : oddW k (c :: l) = (k : Int) := if_neg h
      rw [e, Bool.eq_false_iff.2 h]
      simp
theorem oddW_step {l : List UInt8} {k : Nat} (hk : k < l.length) : oddW k (l.drop k) = if nameC l[k] = true then oddW (k + 1) (l.drop (k + 1)) else (k : Int) := by
  rw [List.drop_eq_getElem_cons hk]
  rfl
set_option maxHeartbeats 4000000 in
set_option maxRecDepth 100000 in
theorem cindexFunc_f (l : List UInt8) (w : World) (_hl : l.length ≤ 1099511627776) (z : Int) (HZ : Hid (oddW 0 l = z)) :
    Calls Tryd.prog 156 #[.string ⟨l.toArray⟩, .func (.func 92) #[] #[], .bool true] w fun e w' => e = .returned (.int .i64 z) ∧ Below w.heap.size w w' := by
  go_enter Tryd.func156, Tryd.ntmps156
  go_wp2
  go_loopw [] (fun wr => ∃ pos : Nat, pos ≤ l.length ∧ wr.heap[w.heap.size]? = some (.stringIter ⟨l.toArray⟩ pos) ∧ Below w.heap.size w wr ∧ Hid (oddW pos (l.drop pos) = z)) (fun wr => l.length - wr.iterPos w.heap.size)
  case atStart => exact ⟨0, Nat.zero_le _, World.iter_heap w _ 0, (Below.refl _ w).alloc (Nat.le_refl _) _, HZ⟩
  case round =>
    obtain ⟨pos, hp, hit, hbr, HA⟩ := hrel
    have hwl : w.heap.size < wr.heap.size := (Array.getElem?_eq_some_iff.1 hit).1
    by_cases hlt : pos < l.length
    · have HS := HA.out
      rw [oddW_step hlt] at HS
      by_cases ha : l[pos].toNat < 128
      · have hnx : ∀ ty, (Instr.next (.pointer (some ⟨w.heap.size, 0, none⟩)) true ty).run Tryd.prog wr = _ := fun ty => Lib.run_next_ascii_at wr w.heap.size ⟨l.toArray⟩ pos ty hit hlt ha
        have hit2 := Lib.iterAt_heap wr w.heap.size ⟨l.toArray⟩ pos (pos + 1) hit
        have hbr2 := Lib.below_iterAt hbr (k := w.heap.size) (Nat.le_refl _) ⟨l.toArray⟩ (pos + 1)
        cases hn : nameC l[pos] with
        | true =>
          have HI : Hid (oddW (pos + 1) (l.drop (pos + 1)) = z) := (by rw [hn, if_pos rfl] at HS; exact HS)
          have hc := fun u => cisOdd_f (l[pos].toNat : Int) u false (by show _ = _; rw [odd_name, hn]; rfl)
          clear HS hn HA
          go_wp2_with fail
          refine (hc _).mono ?_
          rintro e w4 ⟨rfl, rfl⟩
          go_wp2
          go_roundw
          case rel => exact ⟨pos + 1, by omega, hit2, hbr2, HI⟩
          case measure => simp only [World.iterPos, hit, hit2]; omega
        | false =>
          have HE : Hid ((pos : Int) = z) := (by rw [hn, if_neg (by decide)] at HS; exact HS)
          have hc := fun u => cisOdd_f (l[pos].toNat : Int) u true (by show _ = _; rw [odd_name, hn]; rfl)
          clear HS hn HA
          go_wp2_with fail
          refine (hc _).mono ?_
          rintro e w4 ⟨rfl, rfl⟩
          go_wp2
          go_ret
          exact ⟨by rw [HE.out]; rfl, hbr2⟩
      · have hdh := (decode_high ⟨l.toArray⟩ pos hlt (by show 128 ≤ l[pos].toNat; omega))
        have hnx : ∀ ty, (Instr.next (.pointer (some ⟨w.heap.size, 0, none⟩)) true ty).run Tryd.prog wr = _ := fun ty => Lib.run_next_any_at wr w.heap.size ⟨l.toArray⟩ pos ty hit hlt
        have hbr2 := Lib.below_iterAt hbr (k := w.heap.size) (Nat.le_refl _) ⟨l.toArray⟩ (pos + (Utf8.decode ⟨l.toArray⟩ pos).2)
        have hdl := decode_le ⟨l.toArray⟩ pos
        have HE : Hid ((pos : Int) = z) := (by
          have hn : nameC l[pos] = false := (by unfold nameC; exact decide_eq_false (by omega))
          rw [hn, if_neg (by decide)] at HS
          exact HS)
        obtain ⟨hd1, hd2⟩ := hdh
        generalize Utf8.decode ⟨l.toArray⟩ pos = dd at *
        have hc := fun u => cisOdd_f (dd.1 : Int) u true (by
          show _ = _
          unfold oddI
          have : decide (126 < (dd.1 : Int)) = true := decide_eq_true (by omega)
          rw [this]
          simp)
        clear HS HA
        go_wp2_with fail
        refine (hc _).mono ?_
        rintro e w4 ⟨rfl, rfl⟩
        go_wp2
        go_ret
        exact ⟨by rw [HE.out]; rfl, hbr2⟩
    · have hnx : ∀ ty, (Instr.next (.pointer (some ⟨w.heap.size, 0, none⟩)) true ty).run Tryd.prog wr = _ := fun ty => Lib.run_next_end_at wr w.heap.size ⟨l.toArray⟩ pos ty hit hlt
      have HE : Hid (-1 = z) := (by
        have h := HA.out
        rw [List.drop_of_length_le (by omega)] at h
        exact h)
      clear HA
      go_wp2
      go_ret
      exact ⟨by rw [HE.out]; rfl, hbr⟩
set_option maxHeartbeats 1000000 in
theorem cIndexFunc_f (l : List UInt8) (w : World) (hl : l.length ≤ 1099511627776) (z : Int) (HZ : Hid (oddW 0 l = z)) :
    Calls Tryd.prog 127 #[.string ⟨l.toArray⟩, .func (.func 92) #[] #[]] w fun e w' => e = .returned (.int .i64 z) ∧ Below w.heap.size w w' := by
  go_enter Tryd.func127, Tryd.ntmps127
  go_wp2_with fail
  refine (cindexFunc_f l w hl z HZ).mono ?_
  rintro e w1 ⟨rfl, hB⟩
  go_wp2
  go_ret
  exact ⟨rfl, hB⟩
set_option maxHeartbeats 1000000 in
theorem cContainsFunc_f (l : List UInt8) (w : World) (hl : l.length ≤ 1099511627776) (q : Bool) (HQ : Hid ((!l.all nameC) = q)) :
    Calls Tryd.prog 91 #[.string ⟨l.toArray⟩, .func (.func 92) #[] #[]] w fun e w' => e = .returned (.bool q) ∧ Below w.heap.size w w' := by
  obtain ⟨z, hz⟩ : ∃ z, oddW 0 l = z := ⟨_, rfl⟩
  have HC := cIndexFunc_f l w hl z hz
  have HZ : Hid (decide (0 ≤ z) = q) := (by show _ = _; rw [← hz, oddW_all]; exact HQ.out)
  clear hz HQ
  go_enter Tryd.func91, Tryd.ntmps91
  go_wp2_with fail
  refine HC.mono ?_
  rintro e w1 ⟨rfl, hB⟩
  go_wp2
  go_ret
  exact ⟨by rw [HZ.out]; rfl, hB⟩
set_option maxHeartbeats 2000000 in
theorem cname_f (l : List UInt8) (w : World) (hl : l.length ≤ 1099511627776) (t : List UInt8) (HT : Hid (nameT l = t)) :
    Calls Tryd.prog 53 #[.string ⟨l.toArray⟩] w fun e w' => e = .returned (.string ⟨t.toArray⟩) ∧ Below w.heap.size w w' := by
  by_cases h0 : l = []
  · have HE : Hid (devN = t) := (by have h := HT.out; unfold nameT at h; rw [if_pos h0] at h; exact h)
    subst h0
    go_enter Tryd.func53, Tryd.ntmps53
    go_wp2
    go_ret
    exact ⟨by rw [← HE.out]; rfl, Below.refl _ _⟩
  · have e0 : l.isEmpty = false := (by cases l with | nil => exact absurd rfl h0 | cons _ _ => rfl)
    have hq := Quote_any l
    by_cases h1 : l = devN
    · have HE : Hid (Q.quote l = t) := (by have h := HT.out; unfold nameT at h; rw [if_neg h0, if_neg (fun q => q.2 h1)] at h; exact h)
      have e1 : (l == [47, 100, 101, 118, 47, 110, 117, 108, 108]) = true := (by rw [beq_iff_eq]; exact h1)
      clear HT h1
      go_enter Tryd.func53, Tryd.ntmps53
      go_wp2_with fail
      refine (hq _ hl).mono ?_
      rintro e w1 ⟨rfl, hB⟩
      go_wp2
      go_ret
      exact ⟨by rw [← HE.out]; rfl, hB⟩
    · have e1 : (l == [47, 100, 101, 118, 47, 110, 117, 108, 108]) = false := beq_eq_false_iff_ne.2 h1
      cases hn : l.all nameC with
      | true =>
        have HE : Hid (l = t) := (by have h := HT.out; unfold nameT at h; rw [if_neg h0, if_pos ⟨hn, h1⟩] at h; exact h)
        have hc := fun u => cContainsFunc_f l u hl false (by show _ = _; rw [hn]; rfl)
        clear HT h1 hn
        go_enter Tryd.func53, Tryd.ntmps53
        go_wp2_with fail
        refine (hc _).mono ?_
        rintro e w1 ⟨rfl, hB⟩
        go_wp2
        go_ret
        exact ⟨by rw [← HE.out]; rfl, hB⟩
      | false =>
        have HE : Hid (Q.quote l = t) := (by have h := HT.out; unfold nameT at h; rw [if_neg h0, if_neg (fun q => by rw [hn] at q; cases q.1)] at h; exact h)
        have hc := fun u => cContainsFunc_f l u hl true (by show _ = _; rw [hn]; rfl)
        clear HT h1 hn
        go_enter Tryd.func53, Tryd.ntmps53
        go_wp2_with fail
        refine (hc _).mono ?_
        rintro e w1 ⟨rfl, hB⟩
        go_wp2_with fail
        refine (hq _ hl).mono ?_
        rintro e w2 ⟨rfl, hB2⟩
        go_wp2
        go_ret
        exact ⟨by rw [← HE.out]; rfl, hB.trans (hB2.mono hB.size)⟩
end Go.Proofs.YtgiojkhmkeocfaaDoor

/- How long the normal form of a script is; plain mathematics. -/
namespace Go.Proofs.YtgiojkhmkeocfaaDoor

end Go.Proofs.YtgiojkhmkeocfaaDoor

/- The library's contracts on a strings.Builder's WriteString and on strings.HasSuffix, TrimSuffix and CutPrefix at this program: the program bears the bodies that they speak of. -/
namespace Go.Proofs
open Go.Shelf Go.RowKit
end Go.Proofs

/- The code's small functions of layer 12's Print, walked: numbers, ranges, letters, lines that are written. -/
namespace Go.Proofs.YtgiojkhmkeocfaaDoor
open Go.RowKit

/-- the table of powers of ten, in every later world -/
def Tab10 (w : World) : Prop := ∀ u : World, Below w.heap.size w u → Lib.TabIs Tryd.prog u "internal/strconv.uint64pow10" .u64 Lib.pow10Tab
theorem Tab10.on {w u : World} (h : Tab10 w) (hb : Below w.heap.size w u) : Tab10 u := fun v hv => h v (hb.trans (hv.mono hb.size))
set_option maxHeartbeats 1000000 in
theorem nText_f (n : Int) (h0 : -9223372036854775808 ≤ n) (h1 : n ≤ 9223372036854775807) (w : World) (HT : Hid (Tab10 w)) :
    Calls Tryd.prog 71 #[.int .i64 n] w fun e w' => e = .returned (.string ⟨(Lib.itoa n).toArray⟩) ∧ Below w.heap.size w w' := by
  go_enter Tryd.func71, Tryd.ntmps71
  go_wp2_with fail
  refine (Tryd.strconv_Itoa n h0 h1 _ (HT.out _ (Below.refl _ _))).mono ?_
  rintro e w1 ⟨rfl, k, os, rfl⟩
  go_wp2
  go_ret
  exact ⟨rfl, Lib.below_grow w.heap.size w (Nat.le_refl _) k os⟩
end Go.Proofs.YtgiojkhmkeocfaaDoor

/- A line as it stands in a patch (package patchtext), walked. -/
namespace Go.Proofs.YtgiojkhmkeocfaaDoor
open Go.RowKit

theorem suf_feed (s : List UInt8) : Lib.hasSuffix s [10] = fdB s := by
  unfold Lib.hasSuffix fdB
  rw [Bool.eq_iff_iff, List.isSuffixOf_iff_suffix, beq_iff_eq]
  constructor
  · rintro ⟨t, rfl⟩
    simp
  · intro h
    obtain ⟨t, rfl⟩ := List.getLast?_eq_some_iff.1 h
    exact ⟨t, rfl⟩
/-- a line of a file as it stands behind its sign -/
def plT (s : List UInt8) : List UInt8 := if fdB s = true then s else s ++ 10 :: markT
theorem pl_lines (ah s : List UInt8) : (lnL ah s).flatten = ah ++ plT s := by
  unfold lnL plT
  split <;> simp
set_option maxHeartbeats 1000000 in
theorem pline_f (s : List UInt8) (w : World) (hs : s.length ≤ 1099511627776) (Z : List UInt8) (HZ : Hid (plT s = Z)) :
    Calls Tryd.prog 72 #[.string ⟨s.toArray⟩] w fun e w' => e = .returned (.string ⟨Z.toArray⟩) ∧ w' = w := by
  cases hf : fdB s with
  | true =>
    have HE : Hid (s = Z) := (by have h := HZ.out; unfold plT at h; rw [if_pos hf] at h; exact h)
    clear HZ
    go_enter Tryd.func72, Tryd.ntmps72
    go_wp2_with fail
    refine (Tryd.strings_HasSuffix ⟨s.toArray⟩ ⟨#[10]⟩ w (by show s.length ≤ _; omega)).mono ?_
    rintro e w2 ⟨rfl, rfl⟩
    have e1 : Lib.hasSuffix (⟨s.toArray⟩ : ByteArray).data.toList (⟨#[10]⟩ : ByteArray).data.toList = true := (suf_feed s).trans hf
    rw [e1]
    clear e1 hf
    go_wp2
    go_ret
    exact ⟨by rw [← HE.out]; rfl, rfl⟩
  | false =>
    have HE : Hid (s ++ 10 :: markT = Z) := (by have h := HZ.out; unfold plT at h; rw [if_neg (by rw [hf]; decide)] at h; exact h)
    have q1 := add_fits (x := s) (y := 10 :: markT) (by unfold Fits; simp only [markT, List.length_cons, List.length_nil]; omega) Tryd.prog
    rw [HE.out] at q1
    unfold markT at q1
    have q2 := add_fits (x := s) (y := [10]) (by unfold Fits; simp only [List.length_cons, List.length_nil]; omega) Tryd.prog
    have q3 := add_fits (x := s ++ [10]) (y := markT) (by unfold Fits; simp only [markT, List.length_append, List.length_cons, List.length_nil]; omega) Tryd.prog
    have q4 : s ++ [10] ++ markT = Z := (by rw [← HE.out]; simp)
    rw [q4] at q3
    unfold markT at q3
    clear HZ q4
    go_enter Tryd.func72, Tryd.ntmps72
    go_wp2_with fail
    refine (Tryd.strings_HasSuffix ⟨s.toArray⟩ ⟨#[10]⟩ w (by show s.length ≤ _; omega)).mono ?_
    rintro e w2 ⟨rfl, rfl⟩
    have e1 : Lib.hasSuffix (⟨s.toArray⟩ : ByteArray).data.toList (⟨#[10]⟩ : ByteArray).data.toList = false := (suf_feed s).trans hf
    rw [e1]
    clear e1 hf
    go_wp2
    go_ret
    exact ⟨rfl, rfl⟩
end Go.Proofs.YtgiojkhmkeocfaaDoor

/- The code's writeLines of layer 12, walked: lines behind a sign are written into a builder. -/
namespace Go.Proofs.YtgiojkhmkeocfaaDoor
open Go.RowKit

theorem bcells_len (l : List UInt8) : (Lib.byteCells l).length = l.length := by simp [Lib.byteCells]
end Go.Proofs.YtgiojkhmkeocfaaDoor

/- The code's page of layer 15, walked: rows, lines, ranges; the signs that are shown. -/
namespace Go.Proofs.YtgiojkhmkeocfaaDoor
open Go.RowKit Go.Proofs.YtgiojkhmkeocfaaDoor

theorem lays_p : LaysB 97 := ⟨by kernel_rfl, by decide⟩
/-- a page that holds a text -/
def Pg (B b : Nat) (v : Value) (acc : List UInt8) (w : World) : Prop := Bld 97 5 B b v (Lib.byteCells acc) w
theorem Pg.low {B b : Nat} {v : Value} {acc : List UInt8} {w w' : World} (h : Pg B b v acc w) (hb : Below w.heap.size w w') : Pg B b v acc w' := Bld.kept h hb.block
set_option maxHeartbeats 1000000 in
theorem crow_f (B b : Nat) (v : Value) (acc s Z : List UInt8) (w : World) (h : Pg B b v acc w) (hBw : B ≤ w.heap.size) (HZ : Hid (acc ++ s ++ [10] = Z)) (hZ : Z.length ≤ 70368744177664) :
    Calls Tryd.prog 52 #[.pointer (some ⟨b, 0, none⟩), .string ⟨s.toArray⟩] w fun e w' => e = .returned (.tuple #[]) ∧ ∃ v', Pg B b v' Z w' ∧ Wr B b v v' w w' := by
  have hl := congrArg List.length HZ.out
  simp only [List.length_append, List.length_cons, List.length_nil] at hl
  go_enter Tryd.func52, Tryd.ntmps52
  go_wp2_with fail
  refine (cStr_f lays_p B b v _ s _ h (by rw [bcells_len]; omega) hBw).mono ?_
  rintro e w1 ⟨rfl, v1, h1, hw1⟩
  go_wp2_with fail
  refine (cStr_f lays_p B b v1 _ [10] _ h1 (by rw [List.length_append, bcells_len, bcells_len]; simp; omega) (Nat.le_trans hBw hw1.size)).mono ?_
  rintro e w2 ⟨rfl, v2, h2, hw2⟩
  go_wp2
  first
    | go_end0
    | refine bodyPost_ret (results_none rfl _ _ _) rfl ?_
    | refine bodyPost_end (results_none rfl _ _ _) rfl ?_
  refine ⟨rfl, v2, ?_, hw1.trans hw2⟩
  rw [← HZ.out]
  unfold Pg
  rw [Lib.byteCells_append, Lib.byteCells_append]
  exact h2
theorem cell_byte {c : Int} (h0 : 0 ≤ c) (h1 : c < 256) : Lib.byteCells [UInt8.ofNat c.toNat] = [.int .u8 c] := by
  have : ((UInt8.ofNat c.toNat).toNat : Int) = c := by
    rw [UInt8.toNat_ofNat']
    omega
  simp only [Lib.byteCells, List.map_cons, List.map_nil, this]
set_option maxHeartbeats 2000000 in
theorem cline_f (B b : Nat) (v : Value) (c : Int) (h0 : 0 ≤ c) (h1 : c < 256) (acc s Z : List UInt8) (w : World) (h : Pg B b v acc w) (hBw : B ≤ w.heap.size) (HZ : Hid (acc ++ (lnL [UInt8.ofNat c.toNat, 32] s).flatten = Z)) (hZ : Z.length ≤ 70368744177664) (hs : s.length ≤ 1099511627776) :
    Calls Tryd.prog 131 #[.pointer (some ⟨b, 0, none⟩), .int .u8 c, .string ⟨s.toArray⟩] w fun e w' => e = .returned (.tuple #[]) ∧ ∃ v', Pg B b v' Z w' ∧ Wr B b v v' w w' := by
  obtain ⟨T, hT⟩ : ∃ T, plT s = T := ⟨_, rfl⟩
  have HT : Hid (plT s = T) := hT
  have HE : Hid (acc ++ ([UInt8.ofNat c.toNat, 32] ++ T) = Z) := (by
    show _ = _
    rw [← HZ.out, pl_lines, hT])
  have hl := congrArg List.length HE.out
  simp only [List.length_append, List.length_cons, List.length_nil] at hl
  have hA : Hid (Lib.byteCells acc ++ [.int .u8 c] ++ [.int .u8 32] ++ Lib.byteCells T = Lib.byteCells Z) := (by
    show _ = _
    rw [← HE.out, Lib.byteCells_append, Lib.byteCells_append]
    have : Lib.byteCells [UInt8.ofNat c.toNat, 32] = [.int .u8 c] ++ [.int .u8 32] := (by
      have h := cell_byte h0 h1
      simp only [Lib.byteCells, List.map_cons, List.map_nil] at h ⊢
      rw [List.cons_eq_cons.1 h |>.1]
      rfl)
    rw [this]
    simp only [List.append_assoc])
  have hbl := bcells_len acc
  have hsl := bcells_len T
  clear HZ HE hT
  go_enter Tryd.func131, Tryd.ntmps131
  go_wp2_with fail
  refine (cByte_f lays_p B b v _ c _ h (by omega) hBw).mono ?_
  rintro e w1 ⟨rfl, v1, q1, hw1⟩
  go_wp2_with fail
  refine (cByte_f lays_p B b v1 _ 32 _ q1 (by rw [List.length_append]; simp; omega) (Nat.le_trans hBw hw1.size)).mono ?_
  rintro e w2 ⟨rfl, v2, q2, hw2⟩
  have hw12 := hw1.trans hw2
  have q2d : Bld 97 5 B b v2 _ w2.drew := Bld.kept q2 ((Below.refl _ w2).drew).block
  have hwd : Wr B b v v2 w w2.drew := hw12.trans (Wr.low ((Below.refl _ w2).drew) (by have := hw12.size; omega))
  have hszd : B ≤ w2.drew.heap.size := Nat.le_trans hBw hwd.size
  clear q1 q2 hw1 hw2 hw12 h
  go_upto_region 2 with fail
  refine wp_region_noPanic ?_
  refine wp_region_held_drew (S := fun _ => True) (by kernel_rfl) trivial (fun hHeld => ?_)
  generalize w2.drew = wd at q2d hwd hszd ⊢
  refine go_take 0 15 _ (.pointer (some ⟨b, 0, none⟩)) rfl (by kernel_rfl) (by kernel_rfl) (by kernel_rfl) (by kernel_rfl) (fun _ _ _ h => h) (Or.inl ⟨by kernel_rfl, fun u hu => by kernel_rfl⟩) hHeld ?_
  simp only [Act.put, List.setIfInBounds_toArray, List.set_cons_zero, List.set_cons_succ]
  refine go_take 1 16 _ (.pointer (some ⟨b, 0, none⟩)) rfl (by kernel_rfl) (by kernel_rfl) (by kernel_rfl) (by kernel_rfl) (fun _ _ _ h => h) (Or.inl ⟨by kernel_rfl, fun u hu => by kernel_rfl⟩) hHeld ?_
  simp only [Act.put, List.setIfInBounds_toArray, List.set_cons_zero, List.set_cons_succ]
  refine go_take 2 17 _ (.pointer (some ⟨b, 0, none⟩)) rfl (by kernel_rfl) (by kernel_rfl) (by kernel_rfl) (by kernel_rfl) (fun _ _ _ h => h) (Or.inl ⟨by kernel_rfl, fun u hu => by kernel_rfl⟩) hHeld ?_
  simp only [Act.put, List.setIfInBounds_toArray, List.set_cons_zero, List.set_cons_succ]
  refine go_take 3 18 _ (.string ⟨s.toArray⟩) rfl (by kernel_rfl) (by kernel_rfl) (by kernel_rfl) (by kernel_rfl) (fun _ _ _ h => h) (Or.inl ⟨by kernel_rfl, fun u hu => by kernel_rfl⟩) hHeld ?_
  simp only [Act.put, List.setIfInBounds_toArray, List.set_cons_zero, List.set_cons_succ]
  refine go_callE 4 19 _ rfl (by kernel_rfl) (by kernel_rfl) (by kernel_rfl) 72 (.func 72) #[.tmp 18] #[9] (by kernel_rfl) #[] (by kernel_rfl) #[.string ⟨s.toArray⟩] (by kernel_rfl) (enters_of Tryd.func72 (by kernel_rfl) rfl) (fun v3 w3 => v3 = .string ⟨T.toArray⟩ ∧ w3 = wd) ?_ ?_
  · refine (pline_f s wd hs T HT).mono ?_
    rintro e w3 ⟨rfl, rfl⟩
    exact ⟨_, rfl, trivial, rfl, rfl⟩
  rintro _ w3 _ ⟨rfl, rfl⟩
  simp only [Act.put, List.setIfInBounds_toArray, List.set_cons_zero, List.set_cons_succ]
  refine go_callE 5 20 _ rfl (by kernel_rfl) (by kernel_rfl) (by kernel_rfl) 28 (.func 28) #[.tmp 17, .tmp 19] #[61, 9] (by kernel_rfl) #[] (by kernel_rfl) #[.pointer (some ⟨b, 0, none⟩), .string ⟨T.toArray⟩] (by kernel_rfl) (enters_of Tryd.func28 (by kernel_rfl) rfl) (fun _ w4 => ∃ v', Pg B b v' Z w4 ∧ Wr B b v v' w w4) ?_ ?_
  · refine (cStr_f lays_p B b v2 _ T _ q2d (by rw [List.length_append, List.length_append]; simp; omega) hszd).mono ?_
    rintro e w4 ⟨rfl, v4, q4, hw4⟩
    exact ⟨_, rfl, trivial, v4, by unfold Pg; rw [← hA.out]; exact q4, hwd.trans hw4⟩
  rintro _ w4 _ ⟨v4, q4, hw4⟩
  simp only [Act.put, List.setIfInBounds_toArray, List.set_cons_zero, List.set_cons_succ]
  refine wpAnyH_done (by kernel_rfl) ?_ _
  refine NoPanic.normal ?_
  go_wp2
  first
    | go_end0
    | refine bodyPost_ret (results_none rfl _ _ _) rfl ?_
    | refine bodyPost_end (results_none rfl _ _ _) rfl ?_
  exact ⟨rfl, v4, q4, hw4⟩
set_option maxHeartbeats 1000000 in
theorem crange_f (A N : Int) (h0 : 0 ≤ A) (h1 : A ≤ 4611686018427387904) (h2 : 0 ≤ N) (h3 : N ≤ 4611686018427387900) (w : World) (HT : Hid (Tab10 w)) (T : List UInt8) (HR : Hid (spanT A N = T)) :
    Calls Tryd.prog 95 #[.int .i64 A, .int .i64 N] w fun e w' => e = .returned (.string ⟨T.toArray⟩) ∧ Below w.heap.size w w' := by
  have l1 := itoa_short A (by omega) (by omega)
  have l2 := itoa_short (A + N - 1) (by omega) (by omega)
  by_cases hN : N ≤ 1
  · have HE1 : Hid (Lib.itoa A = T) := (by have h := HR.out; unfold spanT at h; rw [if_pos hN] at h; exact h)
    clear HR
    go_enter Tryd.func95, Tryd.ntmps95
    go_wp2_with fail
    refine (nText_f A (by omega) (by omega) _ HT).mono ?_
    rintro e w1 ⟨rfl, hb1⟩
    go_wp2
    go_ret
    exact ⟨by rw [← HE1.out]; rfl, hb1⟩
  · have HE : Hid (Lib.itoa A ++ 44 :: Lib.itoa (A + N - 1) = T) := (by have h := HR.out; unfold spanT at h; rw [if_neg hN] at h; exact h)
    clear HR
    have q1 := add_fits (x := Lib.itoa A) (y := [44]) (by unfold Fits; simp only [List.length_cons, List.length_nil]; omega) Tryd.prog
    have q2 := add_fits (x := Lib.itoa A ++ [44]) (y := Lib.itoa (A + N - 1)) (by unfold Fits; simp only [List.length_append, List.length_cons, List.length_nil]; omega) Tryd.prog
    go_enter Tryd.func95, Tryd.ntmps95
    go_wp2_with fail
    refine (nText_f A (by omega) (by omega) _ HT).mono ?_
    rintro e w1 ⟨rfl, hb1⟩
    have HT1 : Hid (Tab10 w1) := HT.out.on hb1
    go_wp2_with fail
    refine (nText_f (A + N - 1) (by omega) (by omega) _ HT1).mono ?_
    rintro e w2 ⟨rfl, hb2⟩
    go_wp2
    go_ret
    exact ⟨by rw [← HE.out]; rfl, hb1.trans (hb2.mono hb1.size)⟩
end Go.Proofs.YtgiojkhmkeocfaaDoor

/- The code's shownSigns of layer 15, walked. -/
namespace Go.Proofs.YtgiojkhmkeocfaaDoor
open Go.RowKit

def ucells (l : List Int) : List Value := l.map fun n => .int .u8 n
theorem ucells_length (l : List Int) : (ucells l).length = l.length := by simp [ucells]
theorem ucells_append (a b : List Int) : ucells (a ++ b) = ucells a ++ ucells b := by simp [ucells]
theorem ucells_one (l : List Int) : ∀ u ∈ ucells l, u.oneCell' = true := by
  intro u hu
  simp only [ucells, List.mem_map] at hu
  obtain ⟨n, _, rfl⟩ := hu
  rfl
theorem infoU : (Tryd.prog.info? 5).map (fun i => (i.zero, i.size, i.bytes)) = some (some (.int .u8 0), 1, 1) := by kernel_rfl
theorem u_row (w : World) (c : Int) : Holds (w.alloc (.cells #[.int .u8 c] 5)) (.slice (some ⟨w.heap.size, 0, none⟩) 1 1) 1 (ucells [c]) := new_holds w #[.int .u8 c] 5 1 1 (by decide)
def lenW : Value → Nat
  | .slice _ n _ => n
  | _ => 0
theorem mix_len (c : List Mk) : (mixM c).length = c.length := by simp [mixM]
theorem mix_at (c : List Mk) (mx : Bool) (HM : (hasM 45 c && hasM 43 c) = mx) (k : Nat) (hk : k < c.length) : (mixM c).drop k = (if mx = true then 33 else c[k].sg) :: (mixM c).drop (k + 1) := by
  have hl : k < (mixM c).length := by rw [mix_len]; exact hk
  rw [List.drop_eq_getElem_cons hl]
  congr 1
  simp only [mixM, List.getElem_map, HM]
set_option maxHeartbeats 8000000 in
set_option maxRecDepth 10000 in
theorem cshown_f (l : List Mk) (v : Value) (w : World) (hv : HMk w v l) (hl : l.length ≤ 1099511627776) (R : List Int) (HR : Hid (shwL false false l = R)) :
    Calls Tryd.prog 94 #[v] w fun e w' => ∃ v', e = .returned v' ∧ w'.ownsRow w.heap.size 5 1 v' R.length (ucells R) ∧ Below w.heap.size w w' := by
  obtain ⟨lo, lc, rfl⟩ := HMk.form hv
  have hnc := mhold_cap hv
  have HR0 : Hid (([] : List Int) ++ shwL false false (l.drop 0) = R) := (by show _ = _; simp only [List.nil_append, List.drop_zero]; exact HR.out)
  have hown0 : w.ownsRow w.heap.size 5 1 (.slice none 0 0) 0 (ucells []) := hnil_row _ _ _ _
  clear HR
  go_enter Tryd.func94, Tryd.ntmps94
  go_wp2
  go_loopw [3] (fun sv wr => ∃ (acc : List Int) (N : Nat), N ≤ l.length ∧ (∃ o c, sv = .slice o N c) ∧ wr.ownsRow w.heap.size 5 1 sv N (ucells acc) ∧ Below w.heap.size w wr ∧ Hid (acc.length = N) ∧ Hid (acc ++ shwL false false (l.drop N) = R)) (fun sv _ => l.length - lenW sv)
  case atStart => exact ⟨[], 0, Nat.zero_le _, ⟨none, 0, rfl⟩, hown0, Below.refl _ _, rfl, HR0⟩
  case round =>
  obtain ⟨acc, N, hN, ⟨o, c, rfl⟩, hown, hB, HLn, HI⟩ := hrel
  clear HR0 hown0
  by_cases hlt : N < l.length
  · have hsub := mk_from hv N hN
    have hs := run_mF lo l.length lc N hN hnc
    have HST := HI.out
    rw [shw_step] at HST
    have hll : (l.drop N).length = l.length - N := List.length_drop
    obtain ⟨D, hD⟩ : ∃ D, l.drop N = D := ⟨_, rfl⟩
    have HDr : Hid (l.drop N = D) := hD
    rw [hD] at hll hsub HST
    rw [← hll] at hsub hs
    clear hD HI
    generalize mslF lo lc N = ao2 at hs hsub
    generalize lc - N = c2 at hs hsub
    obtain ⟨n, hn⟩ : ∃ n, (chgM D).length = n := ⟨_, rfl⟩
    have hnD : n ≤ D.length := (by rw [← hn]; exact chg_le D)
    have hp := cpiece_f D ao2 c2 wr (hsub.keep hB (Nat.le_refl _)) (by omega) n hn
    have hto := mk_to hsub n hnD
    have hct : D.take n = chgM D := (by rw [← hn]; exact chg_take D)
    rw [hct] at hto
    obtain ⟨T, hT⟩ : ∃ T, tlM (rstM D) = T := ⟨_, rfl⟩
    rw [hT] at HST
    have HTl : Hid ((n = D.length ∧ T = []) ∨ (n < D.length ∧ T = 32 :: shwL false false (l.drop (N + n + 1)))) := (by
      have h1 := congrArg List.length (chg_rstM D)
      rw [List.length_append, hn] at h1
      cases hr : rstM D with
      | nil =>
        rw [hr] at hT h1
        exact .inl ⟨by simpa using h1, hT.symm⟩
      | cons x t =>
        rw [hr] at hT h1
        refine .inr ⟨by simp at h1; omega, ?_⟩
        rw [← hT]
        have h2 : l.drop (N + n + 1) = t := (by
          rw [← List.drop_drop, ← List.drop_drop, HDr.out]
          have h3 := chg_rstM D
          rw [hr] at h3
          have h4 : D.drop n = x :: t := (by rw [← h3, ← hn, List.drop_left])
          rw [h4]
          rfl)
        rw [h2]
        rfl)
    have HS : Hid (acc ++ (mixM (chgM D) ++ T) = R) := HST
    have hhas := fun k u hu r HR => chas_f k (chgM D) (.slice ao2 n c2) u ((hto.keep hB (Nat.le_refl _)).keep hu (Nat.le_refl _)) (by rw [hn]; omega) r HR
    obtain ⟨mx, hmx⟩ : ∃ b, (hasM 45 (chgM D) && hasM 43 (chgM D)) = b := ⟨_, rfl⟩
    have HMX : Hid ((hasM 45 (chgM D) && hasM 43 (chgM D)) = mx) := hmx
    have h45 := fun u hu => hhas 45 u hu _ rfl
    have h43 := fun u hu => hhas 43 u hu _ rfl
    have HCn : Hid ((chgM D).length = n) := hn
    have HDl : Hid (D.length = l.length - N) := hll
    have hn2 : n ≤ 1099511627776 := by omega
    clear HST hT hsub hct hhas hn HDr hll hmx
    generalize chgM D = C at hto HS h45 h43 HMX HCn
    go_wp2_with fail
    refine hp.mono ?_
    rintro e w1 ⟨rfl, hB1⟩
    go_upto_region 4 with fail
    go_cut [5] from 9 to 46 (fun mv wz => mv = .bool mx ∧ Below wr.heap.size wr wz)
    case first =>
      cases h1 : hasM 45 C with
      | true =>
        rw [h1] at h45
        go_wp2_with fail
        refine (h45 w1 hB1).mono ?_
        rintro e w2 ⟨rfl, hB2⟩
        have hB12 := hB1.trans (hB2.mono hB1.size)
        have HE : Hid (hasM 43 C = mx) := (by have h := HMX.out; rw [h1, Bool.true_and] at h; exact h)
        go_wp2_with fail
        refine (h43 w2 hB12).mono ?_
        rintro e w3 ⟨rfl, hB3⟩
        go_wp2
        go_meet
        case rel => exact ⟨by rw [HE.out], hB12.trans (hB3.mono hB12.size)⟩
      | false =>
        rw [h1] at h45
        have HE : Hid (false = mx) := (by have h := HMX.out; rw [h1, Bool.false_and] at h; exact h)
        go_wp2_with fail
        refine (h45 w1 hB1).mono ?_
        rintro e w2 ⟨rfl, hB2⟩
        go_wp2
        go_meet
        case rel => exact ⟨by rw [HE.out], hB1.trans (hB2.mono hB1.size)⟩
    case rest =>
    obtain ⟨rfl, hBc⟩ := hcut
    clear hp h45 h43 hs hB1
    have hown2 : wc.ownsRow w.heap.size 5 1 (.slice o N c) N (ucells acc) := owns_keep hown hBc
    have hB2 := hB.trans (hBc.mono hB.size)
    clear hown hB hBc
    generalize wc = W2 at hown2 hB2 ⊢
    have HS0 : Hid (acc ++ ((mixM C).drop 0 ++ T) = R) := (by show _ = _; rw [List.drop_zero]; exact HS.out)
    have HL0 : Hid (acc.length = N ∧ N = N + 0) := ⟨HLn.out, rfl⟩
    clear HS HLn
    go_wp2
    go_loopw [3, 27] (fun sv i wr => ∃ (k : Nat) (ac : List Int) (N2 : Nat), k ≤ n ∧ i = .int .i64 k ∧ N2 ≤ l.length ∧ (∃ o c, sv = .slice o N2 c) ∧ wr.ownsRow w.heap.size 5 1 sv N2 (ucells ac) ∧ Below w.heap.size w wr ∧ Hid (ac.length = N2 ∧ N2 = N + k) ∧ Hid (ac ++ ((mixM C).drop k ++ T) = R)) (fun _ i _ => n - (intOf i).toNat)
    case atStart => exact ⟨0, acc, N, Nat.zero_le _, by go_num, hN, ⟨o, c, rfl⟩, hown2, hB2, HL0, HS0⟩
    case round =>
    clear HS0 HL0 hown2
    obtain ⟨k, ac, N2, hk, rfl, hN2, ⟨o2, c2', rfl⟩, hown3, hB3, HL3, HI3⟩ := hrel
    have hsz3 := hB3.size
    by_cases hkn : k < n
    · obtain ⟨bk, off, rfl, hbk, _⟩ := HMk.at hto (by have := HCn.out; omega)
      have hkC : k < C.length := (by have := HCn.out; omega)
      obtain ⟨m, hm⟩ : ∃ m, C[k] = m := ⟨_, rfl⟩
      obtain ⟨c0, c1⟩ := Low.mk hB3 hto k hkC hm
      have i1 : (0 : Int) ≤ (k : Int) := by omega
      have i2 : (k : Int) < (n : Int) := by omega
      obtain ⟨S, hS⟩ : ∃ S : Int, (if mx = true then 33 else m.sg) = S := ⟨_, rfl⟩
      have HI4 : Hid ((ac ++ [S]) ++ ((mixM C).drop (k + 1) ++ T) = R) := (by
        show _ = _
        have h := HI3.out
        rw [mix_at C _ HMX.out k hkC, hm, hS] at h
        rw [← h]
        simp)
      have HL4 : Hid ((ac ++ [S]).length = N2 + 1 ∧ N2 + 1 = N + (k + 1) ∧ N2 + 1 ≤ l.length ∧ k + 1 ≤ n) := ⟨by rw [List.length_append, HL3.out.1]; rfl, by have := HL3.out.2; omega, by have := HL3.out.2; have := HDl.out; omega, by omega⟩
      have hownM := hown3.alloc (.cells #[.int .u8 m.sg, .string ⟨m.tx.toArray⟩] 91)
      have hBM := hB3.alloc hB3.size (.cells #[.int .u8 m.sg, .string ⟨m.tx.toArray⟩] 91)
      have HS2 : Hid ((if mx = true then 33 else m.sg) = S) := hS
      clear HI3 HMX hto hS hown3 hB3
      go_upto_region 8 with fail
      go_cut [8] from 28 to 38 (fun sv wz => sv = .int .u8 m.sg ∧ wz = wr.alloc (.cells #[.int .u8 m.sg, .string ⟨m.tx.toArray⟩] 91))
      case first =>
        go_wp2
        go_meet
        case rel => exact ⟨rfl, rfl⟩
      case rest =>
      obtain ⟨rfl, rfl⟩ := hcut
      go_upto_if 33 with fail
      go_cut [8] from 28 to 38 (fun sv wz => sv = .int .u8 S ∧ wz = wr.alloc (.cells #[.int .u8 m.sg, .string ⟨m.tx.toArray⟩] 91))
      case first =>
        cases mx with
        | true =>
          have HE : Hid (33 = S) := (by have h := HS2.out; rw [if_pos rfl] at h; exact h)
          go_wp2
          go_meet
          case rel => exact ⟨by rw [HE.out], rfl⟩
        | false =>
          have HE : Hid (m.sg = S) := (by have h := HS2.out; rw [if_neg (by decide)] at h; exact h)
          go_wp2
          go_meet
          case rel => exact ⟨by rw [HE.out], rfl⟩
      case rest =>
      obtain ⟨rfl, rfl⟩ := hcut
      clear c0 c1 HS2
      generalize wr.alloc (.cells #[.int .u8 m.sg, .string ⟨m.tx.toArray⟩] 91) = Wm at hownM hBM ⊢
      have hszM : w.heap.size ≤ Wm.heap.size := hBM.size
      have hrow := u_row Wm S
      have hownA := hownM.alloc (.cells #[.int .u8 S] 5)
      have hszA : Wm.heap.size ≤ (Wm.alloc (.cells #[.int .u8 S] 5)).heap.size := by simp
      go_wp2_with (at_builtin; refine wpList_append_w _ (by kernel_rfl) (.tmp 34) (.tmp 36) 59 5 (.int .u8 0) 1 1 rfl Tryd.underlying59 infoU rfl (by decide) (by decide) w.heap.size _ _ _ rfl hownA _ 1 (ucells [S]) rfl hrow (ucells_length _) (ucells_one _) (by omega) (by omega) ?_)
      intro v3 u3 hown4 hg4 _
      rw [← ucells_append] at hown4
      have hB4 : Below w.heap.size w u3 := ((hBM.alloc hBM.size _).grown hg4 (hBM.alloc hBM.size _).size (fun j hj => owns_ge hownA hj))
      obtain ⟨o4, c4, rfl⟩ := (holds_of hown4).form
      clear hrow hownA hg4 hszA hownM hBM
      go_wp2
      exact ⟨⟨k + 1, _, N2 + 1, HL4.out.2.2.2, by go_num, HL4.out.2.2.1, ⟨o4, c4, rfl⟩, hown4, hB4, ⟨HL4.out.1, HL4.out.2.1⟩, HI4⟩, by have := HL4.out.2.2.2; simp [intOf]; omega⟩
    · have hend : decide ((k : Int) < (n : Int)) = false := decide_eq_false (by omega)
      have hkk : k = n := by omega
      subst hkk
      have HI4 : Hid (ac ++ T = R) := (by
        have h := HI3.out
        rw [List.drop_of_length_le (by rw [mix_len, HCn.out]; omega), List.nil_append] at h
        exact h)
      have HNk : Hid (N2 = N + k) := HL3.out.2
      have HAl : Hid (ac.length = N2) := HL3.out.1
      clear HI3 HL3 HMX hto
      by_cases hfull : k < D.length
      · have HT : Hid (T = 32 :: shwL false false (l.drop (N2 + 1))) := (by
          rcases HTl.out with h | h
          · omega
          · show _ = _
            rw [HNk.out]
            exact h.2)
        have j1 : (N2 : Int) < (l.length : Int) := (by have := HNk.out; have := HDl.out; omega)
        have HI5 : Hid ((ac ++ [32]) ++ shwL false false (l.drop (N2 + 1)) = R) := (by
          show _ = _
          rw [← HI4.out, HT.out]
          simp)
        have HL5 : Hid ((ac ++ [(32 : Int)]).length = N2 + 1) := (by show _ = _; rw [List.length_append, HAl.out]; rfl)
        have hdec : l.length - (N2 + 1) < l.length - N := (by have := HNk.out; omega)
        have hownM := hown3
        have hBM := hB3
        clear HI4 HT HTl
        have hszA : (wr).heap.size ≤ ((wr).alloc (.cells #[.int .u8 (32)] 5)).heap.size := by simp
        have hrow := u_row (wr) (32)
        have hownA := hownM.alloc (.cells #[.int .u8 (32)] 5)
        go_wp2_with (at_builtin; refine wpList_append_w _ (by kernel_rfl) (.tmp 44) (.tmp 45) 59 5 (.int .u8 0) 1 1 rfl Tryd.underlying59 infoU rfl (by decide) (by decide) w.heap.size _ _ _ rfl hownA _ 1 (ucells [32]) rfl hrow (ucells_length _) (ucells_one _) (by omega) (by omega) ?_)
        intro v3 u3 hown4 hg4 _
        rw [← ucells_append] at hown4
        have hB4 : Below w.heap.size w u3 := ((hBM.alloc hBM.size _).grown hg4 (hBM.alloc hBM.size _).size (fun j hj => owns_ge hownA hj))
        obtain ⟨o4, c4, rfl⟩ := (holds_of hown4).form
        clear hrow hownA hg4 hszA
        go_wp2
        exact ⟨⟨_, N2 + 1, by omega, ⟨o4, c4, rfl⟩, hown4, hB4, HL5, HI5⟩, hdec⟩
      · have HT : Hid (T = []) := (by
          rcases HTl.out with h | h
          · exact h.2
          · omega)
        have j1 : ¬ (N2 : Int) < (l.length : Int) := (by have := HNk.out; have := HDl.out; omega)
        have HI5 : Hid (ac ++ shwL false false (l.drop N2) = R) := (by
          show _ = _
          rw [← HI4.out, HT.out, List.drop_of_length_le (by omega)]
          rfl)
        have hdec : l.length - N2 < l.length - N := (by have := HNk.out; have := HDl.out; omega)
        clear HI4 HT HTl
        go_wp2
        exact ⟨⟨ac, N2, hN2, ⟨o2, c2', rfl⟩, hown3, hB3, HAl, HI5⟩, hdec⟩
  · have hend : ¬ (N : Int) < (l.length : Int) := by omega
    have HE : Hid (acc = R ∧ R.length = N) := (by
      have h := HI.out
      rw [List.drop_of_length_le (by omega)] at h
      have h2 : acc = R := (by rw [← h]; simp [shwL])
      exact ⟨h2, by rw [← h2]; exact HLn.out⟩)
    clear HI HLn
    go_wp2
    go_ret
    obtain ⟨h1, h2⟩ := HE.out
    subst h1
    exact ⟨_, rfl, by rw [h2]; exact hown, hB⟩
end Go.Proofs.YtgiojkhmkeocfaaDoor

/- The code's side of a page of layer 15, walked. -/
namespace Go.Proofs.YtgiojkhmkeocfaaDoor
open Go.RowKit Go.Proofs.YtgiojkhmkeocfaaDoor

theorem cw_u8 {u : World} {a : Addr} {z : Int} (h : u.cell? a = some (.int .u8 z)) {op : Oper} (x : Operand) (ho : op.op = .load 5 x) {ev : Operand → Value} (hx : ev x = .pointer (some a)) :
    (execOp ev op).run Tryd.prog u = .ok (.value (.int .u8 z)) u := by
  simp only [execOp, ho, hx]
  go_simp
theorem cw_str {u : World} {a : Addr} {s : ByteArray} (h : u.cell? a = some (.string s)) {op : Oper} (x : Operand) (ho : op.op = .load 9 x) {ev : Operand → Value} (hx : ev x = .pointer (some a)) :
    (execOp ev op).run Tryd.prog u = .ok (.value (.string s)) u := by
  simp only [execOp, ho, hx]
  go_simp
theorem cw_ix {u : World} {b off n c i : Nat} (hi : i < n) {op : Oper} (x y : Operand) (ho : op.op = .indexAddr 59 x y) {ev : Operand → Value} (hx : ev x = .slice (some ⟨b, off, none⟩) n c) (hy : ev y = .int .i64 (i : Int)) :
    (execOp ev op).run Tryd.prog u = .ok (.value (.pointer (some ⟨b, off + i, none⟩))) u := by
  have i1 : 0 ≤ (i : Int) := by omega
  have i2 : (i : Int) < (n : Int) := by omega
  simp only [execOp, ho, hx, hy]
  go_simp
/-- what a slice of bytes holds, place by place -/
theorem hu_at {w : World} {ao : Option Addr} {n c : Nat} {l : List Int} (h : Holds w (.slice ao n c) n (ucells l)) (hl : l.length = n) (h0 : 0 < n) : ∃ b off, ao = some ⟨b, off, none⟩ ∧ ∀ k (hk : k < l.length), w.cell? ⟨b, off + k, none⟩ = some (.int .u8 l[k]) := by
  rcases h with ⟨_, h1, _⟩ | ⟨ad, c', h, _, hc⟩
  · omega
  · cases h
    have h1 := hc 0 _ (List.getElem?_eq_getElem (by rw [ucells_length]; omega))
    obtain ⟨b, off, rfl⟩ := addr_of h1
    refine ⟨b, off, rfl, fun k hk => ?_⟩
    have := hc k (.int .u8 l[k]) (by simp [ucells, hk])
    rw [add_none] at this
    exact this
theorem sidZ_drop (sg : Int) (l : List Mk) (sh : List Int) (k : Nat) (h : l.length = sh.length) (hk : k < l.length) : sidZ sg (l.drop k) (sh.drop k) = (if l[k].sg = 32 ∨ l[k].sg = sg then lnL [UInt8.ofNat (sh[k]'(by omega)).toNat, 32] l[k].tx else []) ++ sidZ sg (l.drop (k + 1)) (sh.drop (k + 1)) := by
  rw [List.drop_eq_getElem_cons hk, List.drop_eq_getElem_cons (show k < sh.length by omega)]
  rfl
set_option maxHeartbeats 8000000 in
set_option maxRecDepth 10000 in
theorem cside_f (B b : Nat) (v : Value) (sg : Int) (l : List Mk) (sh : List Int) (lv sv : Value) (acc Z : List UInt8) (w : World) (h : Pg B b v acc w) (hBw : B ≤ w.heap.size) (hll : l.length ≤ 1099511627776) (HSl : Hid (l.length = sh.length)) (HSh : Hid (∀ x ∈ sh, 0 ≤ x ∧ x < 256)) (HTx : Hid (∀ m ∈ l, m.tx.length ≤ 1099511627776))
    (hlv : HMk w lv l) (HL : Hid (∀ v' u, Wr B b v v' w u → HMk u lv l)) (HS : Hid (∀ v' u, Wr B b v v' w u → Holds u sv sh.length (ucells sh)))
    (HZ : Hid (acc ++ (if hasM sg l = true then sidZ sg l sh else []).flatten = Z)) (hZ : Z.length ≤ 70368744177664) :
    Calls Tryd.prog 96 #[.pointer (some ⟨b, 0, none⟩), lv, sv, .int .u8 sg] w fun e w' => e = .returned (.tuple #[]) ∧ ∃ v', Pg B b v' Z w' ∧ Wr B b v v' w w' := by
  obtain ⟨lo, lc, rfl⟩ := HMk.form hlv
  obtain ⟨so, sc, rfl⟩ : ∃ so sc, sv = .slice so sh.length sc := (HS.out v w (Wr.refl _ _ _ _)).form
  cases hh : hasM sg l with
  | false =>
    have HE : Hid (acc = Z) := (by show _ = _; have h := HZ.out; rw [hh, if_neg (by decide)] at h; simpa using h)
    have hc := chas_f sg l _ w hlv hll false hh
    clear HZ hh HL HS
    go_enter Tryd.func96, Tryd.ntmps96
    go_wp2_with fail
    refine hc.mono ?_
    rintro e w1 ⟨rfl, hB1⟩
    go_wp2
    first
      | go_end0
      | refine bodyPost_ret (results_none rfl _ _ _) rfl ?_
      | refine bodyPost_end (results_none rfl _ _ _) rfl ?_
    exact ⟨rfl, v, by rw [← HE.out]; exact h.low hB1, Wr.low hB1 hBw⟩
  | true =>
    have HZ0 : Hid (acc ++ (sidZ sg (l.drop 0) (sh.drop 0)).flatten = Z) := (by have h := HZ.out; rw [hh, if_pos rfl] at h; exact h)
    have hc := chas_f sg l _ w hlv hll true hh
    clear HZ hh
    rw [← HSl.out] at HS
    rw [← HSl.out]
    go_enter Tryd.func96, Tryd.ntmps96
    go_wp2_with fail
    refine hc.mono ?_
    rintro e w1 ⟨rfl, hB1⟩
    have hP1 := h.low hB1
    have hW1 : Wr B b v v w w1 := Wr.low hB1 hBw
    clear hc hB1 h
    go_wp2
    go_loopw [16] (fun i wr => ∃ (k : Nat) (v1 : Value) (ac : List UInt8), k ≤ l.length ∧ i = .int .i64 k ∧ Pg B b v1 ac wr ∧ Wr B b v v1 w wr ∧ Hid (ac ++ (sidZ sg (l.drop k) (sh.drop k)).flatten = Z)) (fun i _ => l.length - (intOf i).toNat)
    case atStart => exact ⟨0, v, acc, Nat.zero_le _, by go_num, hP1, hW1, HZ0⟩
    case round =>
    clear HZ0 hP1 hW1
    obtain ⟨k, v1, ac, hk, rfl, hP, hW, HI⟩ := hrel
    have hsz := hW.size
    by_cases hlt : k < l.length
    · obtain ⟨bk, off, rfl, hbk, hcl⟩ := HMk.at (HL.out v1 wr hW) (by omega)
      obtain ⟨sb, soff, rfl, hscl⟩ := hu_at (HS.out v1 wr hW) HSl.out.symm (by omega)
      obtain ⟨c0, c1⟩ := hcl k hlt
      have s0 := hscl k (by have := HSl.out; omega)
      have HI2 := HI.out
      rw [sidZ_drop sg l sh k HSl.out hlt] at HI2
      have hx := HSh.out (sh[k]'(by have := HSl.out; omega)) (List.getElem_mem _)
      have htx := HTx.out l[k] (List.getElem_mem _)
      obtain ⟨m, hm⟩ : ∃ m, l[k] = m := ⟨_, rfl⟩
      obtain ⟨x, hxx⟩ : ∃ x, sh[k]'(by have := HSl.out; omega) = x := ⟨_, rfl⟩
      rw [hm] at c0 c1 HI2 htx
      rw [hxx] at s0 HI2 hx
      have HX : Hid (sh[k]'(by have := HSl.out; omega) = x) := hxx
      clear hcl hscl HI hm hxx
      have i1 : (0 : Int) ≤ (k : Int) := by omega
      have i2 : (k : Int) < (l.length : Int) := by omega
      obtain ⟨q, hq⟩ : ∃ q : Bool, decide (m.sg = 32 ∨ m.sg = sg) = q := ⟨_, rfl⟩
      have HQ : Hid (decide (m.sg = 32 ∨ m.sg = sg) = q) := hq
      clear hq
      go_upto_region 4 with fail
      go_cut [29] from 17 to 38 (fun cv wz => cv = .bool q ∧ wz = wr.alloc (.cells #[.int .u8 m.sg, .string ⟨m.tx.toArray⟩] 91))
      case first =>
        by_cases h1 : m.sg = 32
        · have e1 : (m.sg == 32) = true := beq_iff_eq.2 h1
          have HE : Hid (true = q) := (by show _ = _; rw [← HQ.out]; simp [h1])
          clear h1
          go_wp2
          go_meet
          case rel => exact ⟨by rw [← HE.out], rfl⟩
        · have e1 : (m.sg == 32) = false := beq_eq_false_iff_ne.2 h1
          have HE : Hid ((m.sg == sg) = q) := (by show _ = _; rw [← HQ.out]; simp only [h1, false_or]; rfl)
          clear h1
          go_wp2
          go_meet
          case rel => exact ⟨by rw [← HE.out], rfl⟩
      case rest =>
      obtain ⟨rfl, rfl⟩ := hcut
      have hBm : Below wr.heap.size wr (wr.alloc (.cells #[.int .u8 m.sg, .string ⟨m.tx.toArray⟩] 91)) := (Below.refl _ wr).alloc (Nat.le_refl _) _
      have hPm := hP.low hBm
      have hWm := hW.trans (Wr.low hBm (Nat.le_trans hBw hsz))
      have hMb : (wr.alloc (.cells #[.int .u8 m.sg, .string ⟨m.tx.toArray⟩] 91)).heap[wr.heap.size]? = some (.cells #[.int .u8 m.sg, .string ⟨m.tx.toArray⟩] 91) := heap_alloc_new wr _
      have hOff : Off wr.heap.size b v1 := ⟨by have := Bld.lt hP; omega, fun e => by have := (hP.2.2.1.lt _ e).2; omega⟩
      have hsm : wr.heap.size ≤ (wr.alloc (.cells #[.int .u8 m.sg, .string ⟨m.tx.toArray⟩] 91)).heap.size := by simp
      clear c0 c1 s0
      generalize wr.alloc (.cells #[.int .u8 m.sg, .string ⟨m.tx.toArray⟩] 91) = Wm at hPm hWm hMb hsm hBm ⊢
      generalize wr.heap.size = M at hMb hOff hsm
      cases q with
      | true =>
        have hq1 : m.sg = 32 ∨ m.sg = sg := of_decide_eq_true HQ.out
        rw [if_pos hq1, List.flatten_append, ← List.append_assoc] at HI2
        obtain ⟨A2, hA2⟩ : ∃ A2, ac ++ (lnL [UInt8.ofNat x.toNat, 32] m.tx).flatten = A2 := ⟨_, rfl⟩
        rw [hA2] at HI2
        have HI3 : Hid (A2 ++ (sidZ sg (l.drop (k + 1)) (sh.drop (k + 1))).flatten = Z) := HI2
        have hAl : A2.length ≤ 70368744177664 := (by
          have := congrArg List.length HI2
          rw [List.length_append] at this
          omega)
        have hcl : ∀ (v' : Value) (u : World), Wr B b v v' w u → u.cell? ⟨sb, soff + k, none⟩ = some (.int .u8 x) := (by
          intro v' u hu
          obtain ⟨sb', soff', he, hsc⟩ := hu_at (HS.out v' u hu) HSl.out.symm (by omega)
          cases he
          rw [hsc k (by have := HSl.out; omega)]
          rw [HX.out])
        have d0 : Wm.drew.cell? ⟨sb, soff + k, none⟩ = some (.int .u8 x) := hcl _ _ (hWm.trans (Wr.low ((Below.refl _ Wm).drew) (by have := hWm.size; omega)))
        have d1 : Wm.drew.cell? ⟨M, 1, none⟩ = some (.string ⟨m.tx.toArray⟩) := (by rw [Lib.cell_of_heap (w := Wm.drew) hMb]; rfl)
        have hPd : Pg B b v1 ac Wm.drew := hPm.low ((Below.refl _ Wm).drew)
        have hWd : Wr B b v v1 w Wm.drew := hWm.trans (Wr.low ((Below.refl _ Wm).drew) (by have := hWm.size; omega))
        have HC : Hid (Calls Tryd.prog 131 (#[.pointer (some ⟨b, 0, none⟩), .int .u8 x, .string ⟨m.tx.toArray⟩] ++ #[]) Wm.drew fun e w2 => ∃ v2, e = .returned v2 ∧ (w2.cell? ⟨sb, soff + k, none⟩ = some (.int .u8 x) ∧ w2.cell? ⟨M, 1, none⟩ = some (.string ⟨m.tx.toArray⟩)) ∧ v2 = .tuple #[] ∧ ∃ v', Pg B b v' A2 w2 ∧ Wr B b v v' w w2) := (by
          refine (cline_f B b v1 x hx.1 hx.2 ac m.tx A2 Wm.drew hPd (Nat.le_trans hBw hWd.size) hA2 hAl htx).mono ?_
          rintro e w2 ⟨rfl, v2, h1, h2⟩
          have h3 := hWd.trans h2
          obtain ⟨h4, _⟩ := h2.block (k := M) hMb hOff
          exact ⟨_, rfl, ⟨hcl _ _ h3, by rw [Lib.cell_of_heap h4]; rfl⟩, rfl, v2, h1, h3⟩)
        clear HI2 hA2 HQ hcl hPd hWd hPm hWm hP hW hMb hOff HL HS
        go_upto_region 5 with fail
        refine wp_region_noPanic ?_
        refine wp_region_held_drew (S := fun u => u.cell? ⟨sb, soff + k, none⟩ = some (.int .u8 x) ∧ u.cell? ⟨M, 1, none⟩ = some (.string ⟨m.tx.toArray⟩)) (by kernel_rfl) ⟨d0, d1⟩ (fun hHeld => ?_)
        generalize Wm.drew = wd at hHeld HC ⊢
        refine go_take 0 30 _ (.pointer (some ⟨b, 0, none⟩)) rfl (by kernel_rfl) (by kernel_rfl) (by kernel_rfl) (by kernel_rfl) (fun _ _ _ h => h) (Or.inl ⟨by kernel_rfl, fun u hu => by kernel_rfl⟩) hHeld ?_
        simp only [Act.put, List.setIfInBounds_toArray, List.set_cons_zero, List.set_cons_succ]
        refine go_take 1 31 _ (.slice (some ⟨sb, soff, none⟩) l.length sc) rfl (by kernel_rfl) (by kernel_rfl) (by kernel_rfl) (by kernel_rfl) (fun _ _ _ h => h) (Or.inl ⟨by kernel_rfl, fun u hu => by kernel_rfl⟩) hHeld ?_
        simp only [Act.put, List.setIfInBounds_toArray, List.set_cons_zero, List.set_cons_succ]
        refine go_take 2 32 _ (.int .i64 (k : Int)) rfl (by kernel_rfl) (by kernel_rfl) (by kernel_rfl) (by kernel_rfl) (fun _ _ _ h => h) (Or.inl ⟨by kernel_rfl, fun u hu => by kernel_rfl⟩) hHeld ?_
        simp only [Act.put, List.setIfInBounds_toArray, List.set_cons_zero, List.set_cons_succ]
        refine go_take 3 33 _ (.pointer (some ⟨sb, soff + k, none⟩)) rfl (by kernel_rfl) (by kernel_rfl) (by kernel_rfl) (by kernel_rfl) (fun _ _ _ h => h) (Or.inl ⟨by kernel_rfl, fun u hu => cw_ix (c := sc) hlt (.tmp 31) (.tmp 32) (by kernel_rfl) (by kernel_rfl) (by kernel_rfl)⟩) hHeld ?_
        simp only [Act.put, List.setIfInBounds_toArray, List.set_cons_zero, List.set_cons_succ]
        refine go_take 4 34 _ (.int .u8 x) rfl (by kernel_rfl) (by kernel_rfl) (by kernel_rfl) (by kernel_rfl) (fun _ _ _ h => h) (Or.inl ⟨by kernel_rfl, fun u hu => cw_u8 hu.1 (.tmp 33) (by kernel_rfl) (by kernel_rfl)⟩) hHeld ?_
        simp only [Act.put, List.setIfInBounds_toArray, List.set_cons_zero, List.set_cons_succ]
        refine go_take 5 35 _ (.pointer (some ⟨M, 1, none⟩)) rfl (by kernel_rfl) (by kernel_rfl) (by kernel_rfl) (by kernel_rfl) (fun _ _ _ h => h) (Or.inl ⟨by kernel_rfl, fun u hu => by kernel_rfl⟩) hHeld ?_
        simp only [Act.put, List.setIfInBounds_toArray, List.set_cons_zero, List.set_cons_succ]
        refine go_take 6 36 _ (.string ⟨m.tx.toArray⟩) rfl (by kernel_rfl) (by kernel_rfl) (by kernel_rfl) (by kernel_rfl) (fun _ _ _ h => h) (Or.inl ⟨by kernel_rfl, fun u hu => cw_str hu.2 (.tmp 35) (by kernel_rfl) (by kernel_rfl)⟩) hHeld ?_
        simp only [Act.put, List.setIfInBounds_toArray, List.set_cons_zero, List.set_cons_succ]
        refine go_callE 7 37 _ rfl (by kernel_rfl) (by kernel_rfl) (by kernel_rfl) 131 (.func 131) #[.tmp 30, .tmp 34, .tmp 36] #[136, 5, 9] (by kernel_rfl) #[] (by kernel_rfl) #[.pointer (some ⟨b, 0, none⟩), .int .u8 x, .string ⟨m.tx.toArray⟩] (by kernel_rfl) (enters_of Tryd.func131 (by kernel_rfl) rfl) (fun v2 w2 => v2 = .tuple #[] ∧ ∃ v', Pg B b v' A2 w2 ∧ Wr B b v v' w w2) ?_ ?_
        · exact HC.out
        rintro _ w2 _ ⟨rfl, v2, hP2, hW2⟩
        simp only [Act.put, List.setIfInBounds_toArray, List.set_cons_zero, List.set_cons_succ]
        refine wpAnyH_done (by kernel_rfl) ?_ _
        refine NoPanic.normal ?_
        
        clear HC hHeld
        go_wp2
        exact ⟨⟨k + 1, v2, A2, by omega, by go_num, hP2, hW2, HI3⟩, by simp [intOf]; omega⟩
      | false =>
        have hq1 : ¬ (m.sg = 32 ∨ m.sg = sg) := of_decide_eq_false HQ.out
        rw [if_neg hq1, List.nil_append] at HI2
        have HI3 : Hid (ac ++ (sidZ sg (l.drop (k + 1)) (sh.drop (k + 1))).flatten = Z) := HI2
        clear HI2 HQ
        go_wp2
        exact ⟨⟨k + 1, v1, ac, by omega, by go_num, hPm, hWm, HI3⟩, by simp [intOf]; omega⟩
    · have hend : decide ((k : Int) < (l.length : Int)) = false := decide_eq_false (by omega)
      have HE : Hid (ac = Z) := (by
        have h := HI.out
        rw [List.drop_of_length_le (by omega)] at h
        show _ = _
        simpa [sidZ] using h)
      clear HI
      go_wp2
      first
        | go_end0
        | refine bodyPost_ret (results_none rfl _ _ _) rfl ?_
        | refine bodyPost_end (results_none rfl _ _ _) rfl ?_
      exact ⟨rfl, v1, by rw [← HE.out]; exact hP, hW⟩
end Go.Proofs.YtgiojkhmkeocfaaDoor
