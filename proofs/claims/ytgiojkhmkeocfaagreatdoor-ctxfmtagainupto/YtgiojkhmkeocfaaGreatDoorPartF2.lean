/-
  Texts that belong together, joined: CxP, CxC2, Copy, CqL, CqQ, CwC, CwD, CqB, CqU, CpA.
-/
import Derived.Test.YtgiojkhmkeocfaaGreatDoorPartF1
import Derived.Shelf.Strings.Builder1
import Derived.Test.YtgiojkhmkeocfaaGreatDoorProg
import Derived.Test.YtgiojkhmkeocfaaGreatDoorPartA6
import Derived.Test.YtgiojkhmkeocfaaGreatDoorPartA1
import Derived.WalkKit
import Derived.WalkSpells
import Derived.WalkLawsBesides
import Derived.BigQuiet
import Derived.Test.YtgiojkhmkeocfaaGreatDoorPartA9
import Derived.Lib.IndexAny
import Derived.Laws.RangeAny
import Derived.Deep.QuietTactic
import Derived.Test.YtgiojkhmkeocfaaGreatDoorPartA8
import Derived.Test.YtgiojkhmkeocfaaGreatDoorPartA7

/- The context form: the signs with which the code shows lines; plain mathematics. -/
set_option maxRecDepth 20000
namespace Go.Proofs.YtgiojkhmkeocfaaGreatDoor
open Ln

def chgM (l : List Mk) : List Mk := l.takeWhile fun m => m.sg != 32
def rstM (l : List Mk) : List Mk := l.dropWhile fun m => m.sg != 32
/- signs that are shown -/
def shwL : Bool → Bool → List Mk → List Int
  | _, _, [] => []
  | r, a, m :: l => if m.sg = 32 then 32 :: shwL false false l else (if ((r || anyS 45 (m :: l)) && (a || anyS 43 (m :: l))) = true then 33 else m.sg) :: shwL (r || decide (m.sg = 45)) (a || decide (m.sg = 43)) l
theorem shw_len (l : List Mk) : ∀ r a, (shwL r a l).length = l.length := by
  induction l with
  | nil => intro r a; rfl
  | cons m l ih =>
    intro r a
    simp only [shwL]
    split <;> simp [ih]
/-- the lines of a side behind given signs -/
def sidZ (sg : Int) : List Mk → List Int → List (List UInt8)
  | m :: l, c :: sh => (if m.sg = 32 ∨ m.sg = sg then lnL [UInt8.ofNat c.toNat, 32] m.tx else []) ++ sidZ sg l sh
  | _, _ => []
theorem sid_shw (sg : Int) (l : List Mk) : ∀ r a, sidZ sg l (shwL r a l) = sidL sg r a l := by
  induction l with
  | nil => intro r a; rfl
  | cons m l ih =>
    intro r a
    simp only [shwL, sidL]
    by_cases h : m.sg = 32
    · rw [if_pos h, if_pos h]
      simp only [sidZ]
      rw [if_pos (.inl h), ih]
      rfl
    · rw [if_neg h, if_neg h]
      simp only [sidZ]
      rw [ih]
      by_cases h2 : m.sg = sg
      · rw [if_pos (.inr h2), if_pos h2, h2]
        split <;> rfl
      · rw [if_neg (fun q => q.elim h h2), if_neg h2]
        rfl
def hasM (k : Int) (l : List Mk) : Bool := l.any fun m => m.sg == k
/-- a piece is shown with one sign for all, or its own ones -/
def mixM (c : List Mk) : List Int := c.map fun m => if (hasM 45 c && hasM 43 c) = true then 33 else m.sg
theorem anyS_chg (sg : Int) (l : List Mk) : anyS sg l = hasM sg (chgM l) := by
  induction l with
  | nil => rfl
  | cons m l ih =>
    simp only [anyS, chgM, List.takeWhile_cons]
    by_cases h : m.sg = 32
    · rw [if_pos h]
      have : (m.sg != 32) = false := by simp [h]
      rw [this]
      rfl
    · rw [if_neg h, ih]
      have : (m.sg != 32) = true := by simp [h]
      rw [this]
      simp only [hasM, if_true, List.any_cons, chgM]
      rfl
/-- what is shown behind a piece -/
def tlM : List Mk → List Int
  | [] => []
  | _ :: t => 32 :: shwL false false t
theorem shw_piece (l : List Mk) : ∀ r a, shwL r a l = (chgM l).map (fun m => if ((r || hasM 45 (chgM l)) && (a || hasM 43 (chgM l))) = true then 33 else m.sg) ++ tlM (rstM l) := by
  induction l with
  | nil => intro r a; rfl
  | cons m l ih =>
    intro r a
    by_cases h : m.sg = 32
    · have h1 : (m.sg != 32) = false := by simp [h]
      have e1 : chgM (m :: l) = [] := by simp only [chgM, List.takeWhile_cons, h1]; rfl
      have e2 : rstM (m :: l) = m :: l := by simp only [rstM, List.dropWhile_cons, h1]; rfl
      rw [e1, e2]
      simp only [shwL]
      rw [if_pos h]
      rfl
    · have h1 : (m.sg != 32) = true := by simp [h]
      have e1 : chgM (m :: l) = m :: chgM l := by simp only [chgM, List.takeWhile_cons, h1]; rfl
      have e2 : rstM (m :: l) = rstM l := by simp only [rstM, List.dropWhile_cons, h1]; rfl
      simp only [shwL]
      rw [if_neg h, anyS_chg 45, anyS_chg 43, ih, e1, e2]
      have q : ∀ k : Int, hasM k (m :: chgM l) = (decide (m.sg = k) || hasM k (chgM l)) := fun k => by
        simp only [hasM, List.any_cons]
        rfl
      rw [q, q]
      simp only [List.map_cons, List.cons_append, Bool.or_assoc]
theorem shw_step (l : List Mk) : shwL false false l = mixM (chgM l) ++ tlM (rstM l) := by
  rw [shw_piece]
  simp only [Bool.false_or]
  rfl
theorem chg_rstM (l : List Mk) : chgM l ++ rstM l = l := List.takeWhile_append_dropWhile
end Go.Proofs.YtgiojkhmkeocfaaGreatDoor

/- The context form: how the code lays sides together, shows signs, reads names; plain mathematics. -/
set_option maxRecDepth 20000
namespace Go.Proofs.YtgiojkhmkeocfaaGreatDoor
open Ln

/- pieces -/
def allM (k : Int) (l : List Mk) : Bool := l.all fun m => m.sg == k
def keptM (l : List Mk) : List Mk := l.filter fun m => m.sg == 32
theorem kd_ne (a : UInt8) (k : UInt8) : (((a.toNat : Int)) != (k.toNat : Int)) = (a != k) := by
  rw [Bool.eq_iff_iff, bne_iff_ne, bne_iff_ne, ne_eq, ne_eq, Int.natCast_inj, UInt8.toNat_inj]
theorem kd_eq (a : UInt8) (k : UInt8) : (((a.toNat : Int)) == (k.toNat : Int)) = (a == k) := by
  rw [Bool.eq_iff_iff, beq_iff_eq, beq_iff_eq, Int.natCast_inj, UInt8.toNat_inj]
theorem chg_kM (x : Sde) : chgM (kM x) = kM (chgS x) := by
  induction x with
  | nil => rfl
  | cons y x ih =>
    have h := kd_ne y.1 32
    simp only [chgM, kM_cons, chgS, List.takeWhile_cons] at ih ⊢
    have h2 : (((y.1.toNat : Int)) != 32) = (y.1 != 32) := h
    rw [h2]
    split
    · rw [ih]; rfl
    · rfl
theorem rst_kM (x : Sde) : rstM (kM x) = kM (rstS x) := by
  induction x with
  | nil => rfl
  | cons y x ih =>
    have h := kd_ne y.1 32
    simp only [rstM, kM_cons, rstS, List.dropWhile_cons] at ih ⊢
    have h2 : (((y.1.toNat : Int)) != 32) = (y.1 != 32) := h
    rw [h2]
    split
    · rw [ih]
    · rfl
theorem all_kM (k : UInt8) (x : Sde) : allM (k.toNat : Int) (kM x) = allS k x := by
  unfold allM allS kM
  rw [List.all_map]
  refine congrArg (fun f => x.all f) ?_
  funext y
  exact kd_eq y.1 k
theorem kept_kM (x : Sde) : keptM (kM x) = kM (keptS x) := by
  unfold keptM keptS kM
  rw [List.filter_map]
  refine congrArg (List.map _) (congrArg (fun f => x.filter f) ?_)
  funext y
  exact kd_eq y.1 32
/-- a piece as the code looks at it -/
def mtM (g c : List Mk) : Bool := if c = [] then allM 45 g else if g = [] then allM 43 c else allM 33 g && allM 33 c
theorem mt_kM (x y : Sde) : mtM (kM x) (kM y) = okJ x y := by
  unfold mtM okJ
  have a1 : allM 45 (kM x) = allS 45 x := all_kM 45 x
  have a2 : allM 43 (kM y) = allS 43 y := all_kM 43 y
  have a3 : allM 33 (kM x) = allS 33 x := all_kM 33 x
  have a4 : allM 33 (kM y) = allS 33 y := all_kM 33 y
  rw [a1, a2, a3, a4]
  by_cases hy : y = []
  · subst hy
    rw [if_pos (show kM [] = [] from rfl), if_neg (fun q => q.2 rfl)]
    have : allS 43 [] = true := rfl
    rw [this, Bool.and_true]
  · rw [if_neg (fun q => hy (kM_nil.1 q))]
    by_cases hx : x = []
    · subst hx
      rw [if_pos (show kM [] = [] from rfl), if_neg (fun q => q.1 rfl)]
      have : allS 45 [] = true := rfl
      rw [this, Bool.true_and]
    · rw [if_neg (fun q => hx (kM_nil.1 q)), if_pos ⟨hx, hy⟩]
/-- texts with one sign -/
theorem mkS_kM (s : Int) (x : Sde) : mkS s x = (kM x).map fun m => ⟨s, m.tx⟩ := by
  simp [mkS, kM]
theorem same_kM (x : Sde) : allM 32 (kM x) = sameS x := all_kM 32 x
theorem jn_fuel (n : Nat) : ∀ (o w : Sde) (f g : Nat), o.length ≤ n → o.length < f → o.length < g → jnS f o w = jnS g o w := by
  induction n with
  | zero =>
    intro o w f g h hf hg
    obtain ⟨f, rfl⟩ : ∃ f', f = f' + 1 := ⟨f - 1, by omega⟩
    obtain ⟨g, rfl⟩ : ∃ g', g = g' + 1 := ⟨g - 1, by omega⟩
    have ho : o = [] := List.eq_nil_of_length_eq_zero (by omega)
    subst ho
    simp only [jnS]
    have : rstS [] = [] := rfl
    rw [this]
    cases rstS w <;> rfl
  | succ n ih =>
    intro o w f g h hf hg
    obtain ⟨f, rfl⟩ : ∃ f', f = f' + 1 := ⟨f - 1, by omega⟩
    obtain ⟨g, rfl⟩ : ∃ g', g = g' + 1 := ⟨g - 1, by omega⟩
    simp only [jnS]
    split
    · have hl : (rstS o).length ≤ o.length := by
        have := congrArg List.length (chg_rst o)
        rw [List.length_append] at this
        omega
      cases hro : rstS o with
      | nil => cases rstS w <;> rfl
      | cons y o2 =>
        rw [hro] at hl
        cases hrw : rstS w with
        | nil => rfl
        | cons z w2 =>
          dsimp only
          rw [ih o2 w2 f g (by simp at hl; omega) (by simp at hl; omega) (by simp at hl; omega)]
    · rfl
def jnX (o w : Sde) : Option (List Mk) := jnS (o.length + 1) o w
theorem jnX_eq (o w : Sde) : jnX o w = if okJ (chgS o) (chgS w) = true then match rstS o, rstS w with
      | [], [] => some (mkS 45 (chgS o) ++ mkS 43 (chgS w))
      | (_, s) :: o2, (_, t) :: w2 => if s = t then match jnX o2 w2 with
        | none => none
        | some l => some (mkS 45 (chgS o) ++ (mkS 43 (chgS w) ++ ⟨32, s⟩ :: l)) else none
      | _, _ => none
    else none := by
  have hl : (rstS o).length ≤ o.length := by
    have := congrArg List.length (chg_rst o)
    rw [List.length_append] at this
    omega
  have hX : jnX o w = jnS (o.length + 1) o w := rfl
  rw [hX]
  simp only [jnS]
  split
  · cases hro : rstS o with
    | nil => cases rstS w <;> rfl
    | cons y o2 =>
      rw [hro] at hl
      simp only [List.length_cons] at hl
      cases hrw : rstS w with
      | nil => rfl
      | cons z w2 =>
        dsimp only
        rw [jn_fuel o.length o2 w2 o.length (o2.length + 1) (by omega) (by omega) (by omega)]
        rfl
  · rfl

/- names -/
def unC (s : List UInt8) : List UInt8 := if s = devN then [] else if s.head? = some 34 then Q.uqa s else s
theorem un_code {s n : List UInt8} (h : unN s = some n) : unC s = n := by
  unfold unN at h
  unfold unC
  split at h
  · rename_i h1
    rw [if_pos h1]
    cases h
    rfl
  · rename_i h1
    rw [if_neg h1]
    split at h
    · rename_i h2
      rw [if_pos h2]
      unfold Q.uqa
      split at h
      · rename_i h3
        rw [h3]
        cases h
        rfl
      · cases h
    · rename_i h2
      rw [if_neg h2]
      cases h
      rfl
def nokC (s : List UInt8) : Bool := decide ((unC s).length ≤ 64) && (nameT (unC s) == s)
theorem named_code (s : List UInt8) : namedP s = if nokC s = true then some (unC s) else none := by
  by_cases h : nokC s = true
  · rw [if_pos h]
    unfold nokC at h
    rw [Bool.and_eq_true, decide_eq_true_eq, beq_iff_eq] at h
    exact (named_iff s (unC s)).2 ⟨h.2.symm, h.1⟩
  · rw [if_neg h]
    cases hn : namedP s with
    | none => rfl
    | some n =>
      exfalso
      obtain ⟨h1, h2⟩ := (named_iff s n).1 hn
      have h3 : unC s = n := by rw [h1]; exact un_code (name_un n)
      apply h
      unfold nokC
      rw [h3, Bool.and_eq_true, decide_eq_true_eq, beq_iff_eq]
      exact ⟨h2, h1.symm⟩
/-- a line between two heads -/
theorem inn_code (e : UInt8) (s : List UInt8) : innR e s = if [e, e, e, 32].isPrefixOf s = true then if Lib.hasSuffix (s.drop 4) [32, e, e, e, e] = true then some ((s.drop 4).take ((s.drop 4).length - 5)) else none else none := by
  unfold innR
  by_cases h1 : [e, e, e, 32].isPrefixOf s = true
  · rw [if_pos h1]
    obtain ⟨t, rfl⟩ := List.isPrefixOf_iff_prefix.1 h1
    have e1 : ([e, e, e, 32] ++ t).drop 4 = t := rfl
    have e2 : ([e, e, e, 32] ++ t).length = t.length + 4 := by simp
    rw [e1, e2]
    by_cases h2 : Lib.hasSuffix t [32, e, e, e, e] = true
    · rw [if_pos h2]
      unfold Lib.hasSuffix at h2
      obtain ⟨u, rfl⟩ := List.isSuffixOf_iff_suffix.1 h2
      have e3 : (u ++ [32, e, e, e, e]).length = u.length + 5 := by simp
      rw [e3, if_pos]
      · have e4 : u.length + 5 + 4 - 9 = u.length + 5 - 5 := by omega
        rw [e4]
      · refine ⟨by omega, rfl, ?_⟩
        have e5 : u.length + 5 + 4 - 5 = ([e, e, e, 32] ++ u).length := by simp
        rw [e5, ← List.append_assoc, List.drop_left]
    · rw [if_neg h2, if_neg]
      rintro ⟨h3, _, h4⟩
      apply h2
      unfold Lib.hasSuffix
      rw [List.isSuffixOf_iff_suffix]
      have e6 : ([e, e, e, 32] ++ t).drop (t.length + 4 - 5) = t.drop (t.length - 5) := by
        have : t.length + 4 - 5 = 4 + (t.length - 5) := by omega
        rw [this, ← List.drop_drop]
        rfl
      rw [e6] at h4
      exact ⟨t.take (t.length - 5), by rw [← h4, List.take_append_drop]⟩
  · rw [if_neg h1, if_neg]
    rintro ⟨_, h2, _⟩
    apply h1
    rw [List.isPrefixOf_iff_prefix]
    exact ⟨s.drop 4, by rw [← h2, List.take_append_drop]⟩
end Go.Proofs.YtgiojkhmkeocfaaGreatDoor

/- The library's contract on a fresh strings.Builder's copy check at this program: the program bears the bodies that it speaks of. -/
set_option maxRecDepth 20000
namespace Go.Proofs
open Go.Shelf
def Tryz.lays240_ren : Go.Shelf.Ren := ⟨fun | 240 => 80 | 276 => 133 | n => n, fun | 0 => 0 | 4 => 4 | 9 => 9 | 20 => 20 | 70 => 74 | 72 => 77 | 37 => 75 | 164 => 143 | n => n, fun | n => n⟩
theorem Tryz.lays240 : Go.Proofs.Lays.n240 Tryz.prog Tryz.lays240_ren := {
  mixed := by kernel_rfl
  f240 := Tryz.func80.trans (congrArg some (by kernel_rfl))
  f276 := Tryz.func133.trans (congrArg some (by kernel_rfl))
  t0 := Tryz.underlying0
  a0 := Tryz.isAgg0
  z0 := Tryz.sizeOf0
  v0 := Tryz.zeroValue0
  t4 := Tryz.underlying4
  a4 := Tryz.isAgg4
  z4 := Tryz.sizeOf4
  v4 := Tryz.zeroValue4
  t9 := Tryz.underlying9
  a9 := Tryz.isAgg9
  z9 := Tryz.sizeOf9
  v9 := Tryz.zeroValue9
  t20 := Tryz.underlying20
  a20 := Tryz.isAgg20
  z20 := Tryz.sizeOf20
  v20 := Tryz.zeroValue20
  t70 := Tryz.underlying74
  a70 := Tryz.isAgg74
  z70 := Tryz.sizeOf74
  v70 := Tryz.zeroValue74
  t72 := Tryz.underlying77
  a72 := Tryz.isAgg77
  z72 := Tryz.sizeOf77
  v72 := Tryz.zeroValue77
  t164 := Tryz.underlying143
  a164 := Tryz.isAgg143
  z164 := Tryz.sizeOf143
  v164 := Tryz.zeroValue143 }
theorem Tryz.Builder_X72_240 : Builder.X72 Tryz.prog Tryz.lays240_ren := {
  sizeBuilder := by kernel_rfl
  liesBuilder := by kernel_rfl }
theorem Tryz.copyCheck_fresh (b : Nat) (w : World) (h0 : w.cell? ⟨b, 0, none⟩ = some (.pointer none)) (hsh : w.shape? b = some (77, 2)) (hfz : w.frozen? ⟨b, 0, none⟩ = false) :
    Calls Tryz.prog 80 #[.pointer (some ⟨b, 0, none⟩)] w fun e w' => e = .returned (.tuple #[]) ∧ w' = w.setCell ⟨b, 0, none⟩ (.pointer (some ⟨b, 0, none⟩)) := Any.Builder_copyCheck_fresh Tryz.lays240 Tryz.Builder_X72_240 b w h0 hsh hfz
theorem Tryz.copyCheck_used (b : Nat) (w : World) (h0 : w.cell? ⟨b, 0, none⟩ = some (.pointer (some ⟨b, 0, none⟩))) :
    Calls Tryz.prog 80 #[.pointer (some ⟨b, 0, none⟩)] w fun e w' => e = .returned (.tuple #[]) ∧ w' = w := Any.Builder_copyCheck_used Tryz.lays240 Tryz.Builder_X72_240 b w h0
end Go.Proofs

/- Small functions of layer num and of the reference, and the writing of a byte into a builder, walked. -/
set_option maxRecDepth 20000
namespace Go.Proofs.YtgiojkhmkeocfaaGreatDoor
open Q Go.RowKit Go.Proofs.YtgiojkhmkeocfaaGreatDoor.Tx
attribute [local go_sem] ba_at hexl_at

set_option maxHeartbeats 400000 in
theorem isPlain_any (n : Int) (w : World) :
    Calls Tryz.prog 163 #[.int .u8 n] w fun e w' => e = .returned (.bool (plainI n)) ∧ w = w' := by
  go_enter Tryz.func163, Tryz.ntmps163
  go_wp2
  all_goals go_ret
  all_goals exact ⟨ret_bool (by rw [Bool.eq_iff_iff]; simp [plainI]; omega), rfl⟩

set_option maxHeartbeats 400000 in
theorem plain_any (n : Int) (w : World) :
    Calls Tryz.prog 217 #[.int .u8 n] w fun e w' => e = .returned (.bool (plainI n)) ∧ w = w' := by
  go_enter Tryz.func217, Tryz.ntmps217
  go_wp2
  all_goals go_ret
  all_goals exact ⟨ret_bool (by rw [Bool.eq_iff_iff]; simp [plainI]; omega), rfl⟩

theorem infoU8 : (Tryz.prog.info? 5).map (fun i => (i.zero, i.size, i.bytes)) = some (some (.int .u8 0), 1, 1) := by kernel_rfl
theorem copyCheck_any (B b : Nat) (v : Value) (bs : List Value) (w : World) (h : Bld 77 5 B b v bs w) :
    Calls Tryz.prog 80 #[.pointer (some ⟨b, 0, none⟩)] w fun e w' => e = .returned (.tuple #[]) ∧ w'.heap[b]? = some (.cells #[.pointer (some ⟨b, 0, none⟩), v] 77 (0, 0)) ∧ Bld 77 5 B b v bs w' ∧ Hid (∀ k, k ≠ b → w'.heap[k]? = w.heap[k]?) ∧ Below B w w' := by
  have h' := h
  obtain ⟨hB, ⟨p, hp, hbk⟩, hown, hne⟩ := h
  have hlt : b < w.heap.size := (Array.getElem?_eq_some_iff.1 hbk).1
  have c0 : w.cell? ⟨b, 0, none⟩ = some p := by rw [Lib.cell_of_heap hbk]; rfl
  have f0 : w.frozen? ⟨b, 0, none⟩ = false := Lib.frozen_of_heap hbk 0
  rcases hp with rfl | rfl
  · refine (Tryz.copyCheck_fresh b w c0 (by simp [World.shape?, hbk]) f0).mono ?_
    rintro e w' ⟨rfl, rfl⟩
    have hb' : (w.setCell ⟨b, 0, none⟩ (.pointer (some ⟨b, 0, none⟩))).heap[b]? = some (.cells #[.pointer (some ⟨b, 0, none⟩), v] 77 (0, 0)) := by
      simp only [World.setCell, Array.getElem?_modify, hbk]
      simp
    have ho : ∀ k, k ≠ b → (w.setCell ⟨b, 0, none⟩ (.pointer (some ⟨b, 0, none⟩))).heap[k]? = w.heap[k]? := fun k hk => Below.heap_setCell w _ _ k hk
    refine ⟨rfl, hb', ⟨hB, ⟨_, .inr rfl, hb'⟩, ?_, hne⟩, ho, (Below.refl B w).setCell (p := ⟨b, 0, none⟩) hB _⟩
    refine ⟨hown.1, ?_⟩
    rcases hown.2 with h | ⟨g, cap, cur, fz, q1, q2, q3, q4⟩
    · exact .inl h
    · exact .inr ⟨g, cap, cur, fz, q1, q2, (ho g (fun e => hne (by rw [q1, e]; rfl))).trans q3, q4⟩
  · refine (Tryz.copyCheck_used b w c0).mono ?_
    rintro e w' ⟨rfl, rfl⟩
    exact ⟨rfl, hbk, h', fun _ _ => rfl, Below.refl B _⟩

set_option maxHeartbeats 2000000 in
set_option maxRecDepth 100000 in
theorem WriteByte_any (B b : Nat) (v : Value) (bs : List Value) (c : Int) (w : World) (h : Bld 77 5 B b v bs w) (hlen : bs.length + 1 ≤ 140737488355328) (hBw : B ≤ w.heap.size) :
    Calls Tryz.prog 122 #[.pointer (some ⟨b, 0, none⟩), .int .u8 c] w fun e w' => e = .returned .nilIface ∧ ∃ v', Bld 77 5 B b v' (bs ++ [.int .u8 c]) w' ∧ Go.Proofs.YtgiojkhmkeocfaaGreatDoor.Tx.Aside b v w w' ∧ Fresh v v' w ∧ Below B w w' := by
  obtain ⟨i0, hi, hz0, hz1, hz2⟩ := info_parts infoU8
  go_enter Tryz.func122, Tryz.ntmps122
  go_wp2_with (go_at_call 80; refine (copyCheck_any B b v bs _ h).mono ?_)
  rintro e w1 ⟨rfl, hbk, ⟨hB, _, hown, hne⟩, ho1, hb1⟩
  have c0 : w1.cell? ⟨b, 0, none⟩ = some (.pointer (some ⟨b, 0, none⟩)) := by rw [Lib.cell_of_heap hbk]; rfl
  have c1 : w1.cell? ⟨b, 1, none⟩ = some v := by rw [Lib.cell_of_heap hbk]; rfl
  have hlt : b < w1.heap.size := (Array.getElem?_eq_some_iff.1 hbk).1
  go_wp2_with (at_builtin; refine wpList_append_ownX _ rfl _ _ 75 rfl B 5 i0 (.int .u8 0) 1 1 Tryz.underlying75 hi hz0 hz1 hz2 rfl (by decide) _ _ _ rfl (hown.alloc _) ⟨w1.heap.size, 0, none⟩ 1 1 [.int .u8 c] rfl rfl ?c1 ?c2 ?c3 ?c4 ?c5 ?_)
  case c1 =>
    intro j u hj
    match j, hj with
    | 0, hj => simp at hj; subst hj; simp [Addr.add]
  case c2 => intro u hu; simp at hu; subst hu; rfl
  case c3 => unfold maxLen; omega
  case c4 => omega
  case c5 => have := hb1.size; simp; omega
  intro v' w2 hown' hgrow hfr
  have hb2 : w2.heap[b]? = some (.cells #[.pointer (some ⟨b, 0, none⟩), v] 77 (0, 0)) := by
    rw [hgrow.block b (by simp; omega) (fun e => hne e.symm), Lib.alloc_old w1 _ b hlt]
    exact hbk
  have d0 : w2.cell? ⟨b, 0, none⟩ = some (.pointer (some ⟨b, 0, none⟩)) := by rw [Lib.cell_of_heap hb2]; rfl
  have d1 : w2.cell? ⟨b, 1, none⟩ = some v := by rw [Lib.cell_of_heap hb2]; rfl
  have f1 : w2.frozen? ⟨b, 1, none⟩ = false := Lib.frozen_of_heap hb2 1
  obtain ⟨g, cap, rfl⟩ : ∃ g cap, v' = .slice (some ⟨g, 0, none⟩) (bs.length + 1) cap := by
    rcases hown'.2 with ⟨_, h0⟩ | ⟨g, cap, cur, fz, hv, _⟩
    · omega
    · exact ⟨g, cap, hv⟩
  go_wp2
  go_ret
  refine ⟨rfl, _, Bld.put hB (.inr rfl) hb2 (by simpa using hown') (by decide), ?_, ?_, ?_⟩
  · intro k hk hkb hkv
    rw [Below.heap_setCell w2 _ _ k hkb, hgrow.block k (by have := hb1.size; simp; omega) (fun e => hkv e.symm), Lib.alloc_old w1 _ k (by have := hb1.size; omega)]
    exact ho1.out k hkb
  · rcases hfr with h | ⟨g', h, h2⟩
    · exact .inl h
    · exact .inr ⟨g', h, by have := hb1.size; omega⟩
  · exact ((hb1.alloc (by have := hb1.size; omega) _).grown hgrow (by have := hb1.size; simp; omega) (fun k hk => (hown.lt k hk).1)).setCell (p := ⟨b, 1, none⟩) hB _


set_option maxHeartbeats 1000000 in
theorem digit_any (n : Int) (w : World) :
    Calls Tryz.prog 218 #[.int .u8 n] w fun e w' => e = .returned (.int .i64 (digitI n)) ∧ w = w' := by
  go_enter Tryz.func218, Tryz.ntmps218
  go_wp2
  go_loop [3] (fun i => ∃ k : Nat, k ≤ 16 ∧ i = .int .i64 k ∧ ∀ j, j < k → ((hexc j).toNat : Int) ≠ n) (fun i => 16 - (intOf i).toNat)
  case atStart => exact ⟨0, by omega, rfl, by intro j hj; omega⟩
  case round =>
    obtain ⟨k, hk, rfl, hno⟩ := hrel
    have HN : Hid (∀ j, j < k → ((hexc j).toNat : Int) ≠ n) := hno
    clear hno
    by_cases hlt : k < 16
    · by_cases heq : ((hexc k).toNat : Int) = n
      · have hb : (((hexc k).toNat : Int) == n) = true := by simp [heq]
        have HE : Hid ((k : Int) = digitI n) := by show (k : Int) = digitI n; rw [← heq, digit_hexc k hlt]
        clear heq
        go_wp2
        go_ret
        exact ⟨ret_int HE.out, rfl⟩
      · have hb : (((hexc k).toNat : Int) == n) = false := by simp [heq]
        go_wp2
        exact ⟨⟨k + 1, by omega, by go_num, fun j hj => if h : j = k then h ▸ heq else HN.out j (by omega)⟩, by simp [intOf]; omega⟩
    · go_wp2
      go_ret
      exact ⟨ret_int (digit_none n (fun j hj => HN.out j (by omega))).symm, rfl⟩
end Go.Proofs.YtgiojkhmkeocfaaGreatDoor

/- num.Quote, walked: what it returns is the plain function 'quote' of the text. -/
set_option maxRecDepth 20000
namespace Go.Proofs.YtgiojkhmkeocfaaGreatDoor
open Q Go.RowKit Go.Proofs.YtgiojkhmkeocfaaGreatDoor.Tx

set_option maxHeartbeats 2000000 in
set_option maxRecDepth 100000 in
theorem Quote_any (l : List UInt8) (w : World) (hl : l.length ≤ 1099511627776) :
    Calls Tryz.prog 110 #[.string ⟨l.toArray⟩] w fun e w' => e = .returned (.string ⟨(quote l).toArray⟩) ∧ Below w.heap.size w w' := by
  go_enter Tryz.func110, Tryz.ntmps110
  go_wp2_with fail
  refine (WriteByte_any w.heap.size w.heap.size (.slice none 0 0) [] 34 _ (Bld.fresh 77 5 w) (by simp) (by simp)).mono ?_
  rintro e w1 ⟨rfl, v1, hB1, ha1, hf1, hb1⟩
  obtain ⟨cap, C, fz, w2, hcv, hR, hC, hb2, hlt2⟩ := conv_bytes (P := Tryz.prog) w1 9 75 5 l Tryz.underlying9 Tryz.underlying75 Tryz.underlying5
  have hB2 := hB1.kept (below_all hb2)
  have hRb : Beside w1.heap.size (.cells C 5 fz) w.heap.size v1 w2 := ⟨hR, by have := hB1.lt; omega, by
    intro e
    have := (hB1.2.2.1.lt _ e).2
    omega⟩
  have hbw : Below w.heap.size w w2 := (((Below.refl _ w).alloc (Nat.le_refl _) _).trans hb1).trans (hb2.mono (by have := hb1.size; simp at this; omega))
  generalize hRR : w1.heap.size = R at *
  have HR : Hid (w1.heap.size = R) := hRR
  clear hRR
  go_wp2
  go_loopw [10] (fun i wr => ∃ (k : Nat) (acc : List UInt8) (v : Value), k ≤ l.length ∧ i = .int .i64 k ∧ Bld 77 5 w.heap.size w.heap.size v (Lib.byteCells acc) wr ∧ Beside R (.cells C 5 fz) w.heap.size v wr ∧ Below w.heap.size w wr ∧ acc ++ qbody (l.drop k) = [34] ++ qbody l ∧ acc.length ≤ 3 * k + 1) (fun i _ => l.length - (intOf i).toNat)
  case atStart => exact ⟨0, [34], v1, Nat.zero_le _, rfl, hB2, hRb, hbw, rfl, by simp⟩
  case round =>
    obtain ⟨k, acc, v, hk, rfl, hB, hR', hbr, hacc, hal⟩ := hrel
    by_cases hlt : k < l.length
    · have hc := (hR'.cell k).trans (hC k hlt)
      have hdk : l.drop k = l[k] :: l.drop (k + 1) := List.drop_eq_getElem_cons hlt
      have HD : Hid (acc ++ (q1 l[k] ++ qbody (l.drop (k + 1))) = [34] ++ qbody l) := by
        rw [hdk] at hacc
        exact hacc
      clear hacc hdk
      generalize l[k] = x at *
      have hx : x.toNat < 256 := x.toNat_lt
      go_wp2_with fail
      refine (isPlain_any _ _).mono ?_
      rintro e w' ⟨rfl, rfl⟩
      cases hpl : plainI x.toNat
      · have HP : Hid (q1 x = [92, hexc (x.toNat / 16), hexc (x.toNat % 16)]) := by
          show q1 x = _
          simp [q1, hpl]
        go_wp2_with fail
        refine (WriteByte_any w.heap.size w.heap.size v _ 92 _ hB (by rw [Lib.byteCells_length]; omega) (by have := hbr.size; omega)).mono ?_
        rintro e w3 ⟨rfl, v3, hB3, ha3, hf3, hb3⟩
        go_wp2_with fail
        rw [hex_at]
        refine (WriteByte_any w.heap.size w.heap.size v3 _ _ _ hB3 (by simp [Lib.byteCells_length]; omega) (by have := hbr.size; have := hb3.size; omega)).mono ?_
        rintro e w4 ⟨rfl, v4, hB4, ha4, hf4, hb4⟩
        go_wp2_with fail
        rw [hex_at]
        refine (WriteByte_any w.heap.size w.heap.size v4 _ _ _ hB4 (by simp [Lib.byteCells_length]; omega) (by have := hbr.size; have := hb3.size; have := hb4.size; omega)).mono ?_
        rintro e w5 ⟨rfl, v5, hB5, ha5, hf5, hb5⟩
        go_wp2
        go_roundw
        case rel =>
          refine ⟨k + 1, acc ++ [92, hexc (x.toNat / 16), hexc (x.toNat % 16)], v5, by omega, by go_num, ?_, ((hR'.step ha3 hf3).step ha4 hf4).step ha5 hf5, ((hbr.trans hb3).trans hb4).trans hb5, by rw [← HD.out, HP.out]; simp, by simp; omega⟩
          have e : Lib.byteCells (acc ++ [92, hexc (x.toNat / 16), hexc (x.toNat % 16)]) = Lib.byteCells acc ++ [.int .u8 92] ++ [.int .u8 (hexc (x.toNat / 16)).toNat] ++ [.int .u8 (hexc (x.toNat % 16)).toNat] := by
            rw [Lib.byteCells_append]; simp [Lib.byteCells]
          rw [e]
          exact hB5
        case measure => simp [intOf]; omega
      · have HP : Hid (q1 x = [x]) := by
          show q1 x = _
          simp [q1, hpl]
        go_wp2_with fail
        refine (WriteByte_any w.heap.size w.heap.size v _ _ _ hB (by rw [Lib.byteCells_length]; omega) (by have := hbr.size; omega)).mono ?_
        rintro e w3 ⟨rfl, v3, hB3, ha3, hf3, hb3⟩
        go_wp2
        go_roundw
        case rel => exact ⟨k + 1, acc ++ [x], v3, by omega, by go_num, by rw [Lib.byteCells_append]; exact hB3, hR'.step ha3 hf3, hbr.trans hb3, by rw [← HD.out, HP.out]; simp, by simp; omega⟩
        case measure => simp [intOf]; omega
    · have HD : Hid (acc = [34] ++ qbody l) := by
        have e : l.drop k = [] := List.drop_eq_nil_of_le (by omega)
        rw [e] at hacc
        show acc = _
        simpa [qbody] using hacc
      clear hacc
      go_wp2_with fail
      refine (WriteByte_any w.heap.size w.heap.size v _ 34 _ hB (by rw [Lib.byteCells_length]; omega) (by have := hbr.size; omega)).mono ?_
      rintro e w3 ⟨rfl, v3, hB3, ha3, hf3, hb3⟩
      go_wp2_with fail
      have hB4 : Bld 77 5 w.heap.size w.heap.size v3 (Lib.byteCells (acc ++ [34])) w3 := by rw [Lib.byteCells_append]; exact hB3
      refine (Tryz.Builder_String_any_k w.heap.size w.heap.size _ _ hB4.isF (by have := hbr.size; have := hb3.size; omega)).mono ?_
      rintro e w4 ⟨rfl, _, hb4, _⟩
      go_wp2
      go_ret
      rw [HD.out]
      exact ⟨rfl, (hbr.trans hb3).trans hb4⟩
end Go.Proofs.YtgiojkhmkeocfaaGreatDoor

/- slices.IndexFunc, slices.ContainsFunc for a function value that may hold a variable; the code's isKept, has, piece of layer 15, walked. -/
set_option maxRecDepth 20000
namespace Go.Proofs.YtgiojkhmkeocfaaGreatDoor
open Ln Go.RowKit

/-- where the first one is, or -1 -/
def idxI (p : Mk → Bool) : Nat → List Mk → Int
  | _, [] => -1
  | k, m :: l => if p m = true then (k : Int) else idxI p (k + 1) l
theorem idxI_any (p : Mk → Bool) (l : List Mk) : ∀ k, decide (0 ≤ idxI p k l) = l.any p := by
  induction l with
  | nil => intro k; rfl
  | cons m l ih =>
    intro k
    rw [List.any_cons]
    by_cases h : p m = true
    · have e : idxI p k (m :: l) = (k : Int) := if_pos h
      rw [e, h]
      simp
    · have e : idxI p k (m :: l) = idxI p (k + 1) l := if_neg h
      rw [e, ih, Bool.eq_false_iff.2 h]
      rfl
theorem chgM_ne {m : Mk} {l : List Mk} (h : m.sg ≠ 32) : chgM (m :: l) = m :: chgM l ∧ rstM (m :: l) = rstM l := by
  have h1 : (m.sg != 32) = true := by simp [h]
  constructor
  · simp only [chgM, List.takeWhile_cons, h1]; rfl
  · simp only [rstM, List.dropWhile_cons, h1]; rfl
theorem chgM_eq {m : Mk} {l : List Mk} (h : m.sg = 32) : chgM (m :: l) = [] ∧ rstM (m :: l) = m :: l := by
  have h1 : (m.sg != 32) = false := by simp [h]
  constructor
  · simp only [chgM, List.takeWhile_cons, h1]; rfl
  · simp only [rstM, List.dropWhile_cons, h1]; rfl
theorem idxI_chg (l : List Mk) : ∀ k, idxI (fun m => m.sg == 32) k l = if rstM l = [] then -1 else (k : Int) + (chgM l).length := by
  induction l with
  | nil => intro k; rfl
  | cons m l ih =>
    intro k
    by_cases h : m.sg = 32
    · have e : idxI (fun m => m.sg == 32) k (m :: l) = (k : Int) := if_pos (by simp [h])
      rw [e, (chgM_eq h).1, (chgM_eq h).2, if_neg (by simp)]
      simp
    · have e : idxI (fun m => m.sg == 32) k (m :: l) = idxI (fun m => m.sg == 32) (k + 1) l := if_neg (by simp [h])
      rw [e, ih, (chgM_ne h).1, (chgM_ne h).2]
      by_cases hq : rstM l = []
      · rw [if_pos hq, if_pos hq]
      · rw [if_neg hq, if_neg hq]
        simp only [List.length_cons]; omega
theorem idxI_drop {p : Mk → Bool} {l : List Mk} {k : Nat} (hk : k < l.length) : idxI p k (l.drop k) = if p l[k] = true then (k : Int) else idxI p (k + 1) (l.drop (k + 1)) := by
  rw [List.drop_eq_getElem_cons hk]
  rfl
set_option maxRecDepth 10000 in
set_option maxHeartbeats 2000000 in
theorem cIdx_f (g : Nat) (cap : Array Value) (l : List Mk) (p : Mk → Bool) (v : Value) (w : World) (hv : HMk w v l) (hl : l.length ≤ 1099511627776) (eg : ∀ args w, (callFunc g args).run Tryz.prog w = .ok (.enter g args) w)
    (hf : Hid (∀ m ∈ l, ∀ u : World, Below w.heap.size w u → Calls Tryz.prog g (#[.agg #[.int .u8 m.sg, .string ⟨m.tx.toArray⟩]] ++ cap) u fun e u' => e = .returned (.bool (p m)) ∧ Below u.heap.size u u')) (z : Int) (HR : Hid (idxI p 0 l = z)) :
    Calls Tryz.prog 106 #[v, .func (.func g) #[] cap] w fun e w' => e = .returned (.int .i64 z) ∧ Below w.heap.size w w' := by
  obtain ⟨lo, lc, rfl⟩ := HMk.form hv
  go_enter Tryz.func106, Tryz.ntmps106
  go_wp2
  go_loopw [5, 8] (fun _ i wr => ∃ k : Nat, k ≤ l.length ∧ i = .int .i64 k ∧ Below w.heap.size w wr ∧ Hid (idxI p k (l.drop k) = z)) (fun _ i _ => l.length - (intOf i).toNat)
  case atStart => exact ⟨0, Nat.zero_le _, rfl, Below.refl _ _, HR⟩
  case round =>
    obtain ⟨k, hk, rfl, hB, HI⟩ := hrel
    clear HR
    by_cases hlt : k < l.length
    · obtain ⟨b, off, rfl, hb, _⟩ := HMk.at hv (by omega)
      obtain ⟨m, hm⟩ : ∃ m, l[k] = m := ⟨_, rfl⟩
      obtain ⟨c0, c1⟩ := Low.mk hB hv k hlt hm
      have hc := hf.out m (by rw [← hm]; exact List.getElem_mem hlt) wr hB
      have i1 : 0 ≤ (k : Int) := by omega
      have i2 : (k : Int) < (l.length : Int) := by omega
      have HI2 : Hid ((if p m = true then (k : Int) else idxI p (k + 1) (l.drop (k + 1))) = z) := (by
        have h := HI.out
        rw [idxI_drop hlt, hm] at h
        exact h)
      obtain ⟨q, hq⟩ : ∃ q, p m = q := ⟨_, rfl⟩
      rw [hq] at hc HI2
      clear HI hm hq
      cases q with
      | true =>
        have HE : Hid ((k : Int) = z) := (by have h := HI2.out; rw [if_pos rfl] at h; exact h)
        clear HI2
        go_wp2_with (go_at_fn g; refine hc.mono ?_; rintro e w' ⟨rfl, hB1⟩)
        go_ret
        exact ⟨by rw [HE.out]; rfl, hB.trans (hB1.mono hB.size)⟩
      | false =>
        have HE : Hid (idxI p (k + 1) (l.drop (k + 1)) = z) := (by have h := HI2.out; rw [if_neg (by decide)] at h; exact h)
        clear HI2
        go_wp2_with (go_at_fn g; refine hc.mono ?_; rintro e w' ⟨rfl, hB1⟩)
        exact ⟨⟨k + 1, by omega, by go_num, hB.trans (hB1.mono hB.size), HE⟩, by simp [intOf]; omega⟩
    · have HE : Hid (-1 = z) := (by
        have h := HI.out
        rw [List.drop_of_length_le (by omega)] at h
        exact h)
      clear HI
      have hend : decide ((k : Int) < (l.length : Int)) = false := decide_eq_false (by omega)
      go_wp2
      go_ret
      exact ⟨by rw [HE.out]; rfl, hB⟩
set_option maxHeartbeats 1000000 in
theorem cContains_f (g : Nat) (cap : Array Value) (l : List Mk) (p : Mk → Bool) (v : Value) (w : World) (hv : HMk w v l) (hl : l.length ≤ 1099511627776) (eg : ∀ args w, (callFunc g args).run Tryz.prog w = .ok (.enter g args) w)
    (hf : Hid (∀ m ∈ l, ∀ u : World, Below w.heap.size w u → Calls Tryz.prog g (#[.agg #[.int .u8 m.sg, .string ⟨m.tx.toArray⟩]] ++ cap) u fun e u' => e = .returned (.bool (p m)) ∧ Below u.heap.size u u')) (r : Bool) (HR : Hid (l.any p = r)) :
    Calls Tryz.prog 60 #[v, .func (.func g) #[] cap] w fun e w' => e = .returned (.bool r) ∧ Below w.heap.size w w' := by
  obtain ⟨z, hz⟩ : ∃ z, idxI p 0 l = z := ⟨_, rfl⟩
  have HC := cIdx_f g cap l p v w hv hl eg hf z hz
  have HZ : Hid (decide (0 ≤ z) = r) := (by show _ = _; rw [← hz, idxI_any]; exact HR.out)
  clear hz HR
  obtain ⟨lo, lc, rfl⟩ := HMk.form hv
  go_enter Tryz.func60, Tryz.ntmps60
  go_wp2_with fail
  refine HC.mono ?_
  rintro e w1 ⟨rfl, hB⟩
  go_wp2
  go_ret
  exact ⟨by rw [HZ.out]; rfl, hB⟩
set_option maxHeartbeats 1000000 in
theorem cisKept_f (m : Mk) (w : World) : Calls Tryz.prog 212 #[.agg #[.int .u8 m.sg, .string ⟨m.tx.toArray⟩]] w fun e w' => e = .returned (.bool (m.sg == 32)) ∧ Below w.heap.size w w' := by
  have hBl : Below w.heap.size w (w.alloc (.cells #[.int .u8 m.sg, .string ⟨m.tx.toArray⟩] 103)) := (Below.refl _ w).alloc (Nat.le_refl _) _
  go_enter Tryz.func212, Tryz.ntmps212
  go_wp2
  go_ret
  exact ⟨rfl, hBl⟩
set_option maxHeartbeats 1000000 in
theorem chas1_f (k : Int) (X : Nat) (m : Mk) (w : World) (cX : w.cell? ⟨X, 0, none⟩ = some (.int .u8 k)) (hX : X < w.heap.size) : Calls Tryz.prog 221 #[.agg #[.int .u8 m.sg, .string ⟨m.tx.toArray⟩], .pointer (some ⟨X, 0, none⟩)] w fun e w' => e = .returned (.bool (m.sg == k)) ∧ Below w.heap.size w w' := by
  have hBl : Below w.heap.size w (w.alloc (.cells #[.int .u8 m.sg, .string ⟨m.tx.toArray⟩] 103)) := (Below.refl _ w).alloc (Nat.le_refl _) _
  have cX2 : (w.alloc (.cells #[.int .u8 m.sg, .string ⟨m.tx.toArray⟩] 103)).cell? ⟨X, 0, none⟩ = some (.int .u8 k) := (World.cell?_of_block (w := w) (hBl.block X hX)).trans cX
  go_enter Tryz.func221, Tryz.ntmps221
  go_wp2
  go_ret
  exact ⟨rfl, hBl⟩
set_option maxHeartbeats 1000000 in
theorem chas_f (k : Int) (l : List Mk) (v : Value) (w : World) (hv : HMk w v l) (hl : l.length ≤ 1099511627776) (r : Bool) (HR : Hid (hasM k l = r)) :
    Calls Tryz.prog 165 #[v, .int .u8 k] w fun e w' => e = .returned (.bool r) ∧ Below w.heap.size w w' := by
  have hBl : Below w.heap.size w (w.alloc (.cells #[.int .u8 k] 5)) := (Below.refl _ w).alloc (Nat.le_refl _) _
  have cX : (w.alloc (.cells #[.int .u8 k] 5)).cell? ⟨w.heap.size, 0, none⟩ = some (.int .u8 k) := (by rw [Lib.cell_of_heap (heap_alloc_new w _)]; rfl)
  have hsz : (w.alloc (.cells #[.int .u8 k] 5)).heap.size = w.heap.size + 1 := by simp
  have hv1 : HMk (w.alloc (.cells #[.int .u8 k] 5)) v l := hv.keep hBl (Nat.le_refl _)
  have HC : Hid (Calls Tryz.prog 60 #[v, .func (.func 221) #[] #[.pointer (some ⟨w.heap.size, 0, none⟩)]] (w.alloc (.cells #[.int .u8 k] 5)) fun e w' => e = .returned (.bool r) ∧ Below w.heap.size w w') := (by
    refine (cContains_f 221 #[.pointer (some ⟨w.heap.size, 0, none⟩)] l (fun m => m.sg == k) v _ hv1 hl (enters_of Tryz.func221 (by kernel_rfl) rfl) ?_ r HR).mono ?_
    · intro m _ u hu
      refine chas1_f k w.heap.size m u ((World.cell?_of_block (hu.block w.heap.size (by rw [hsz]; omega))).trans cX) (Nat.lt_of_lt_of_le (by rw [hsz]; omega) hu.size)
    · rintro e w' ⟨h1, h2⟩
      exact ⟨h1, hBl.trans (h2.mono (by rw [hsz]; omega))⟩)
  obtain ⟨lo, lc, rfl⟩ := HMk.form hv
  clear cX hsz hv1 HR hBl
  have hmf : ∀ (fn : Fn) (first cap : Array Value) (w : World), (Instr.makeFunc fn first cap).run Tryz.prog w = .ok (.func fn first cap) w := fun _ _ _ _ => rfl
  go_enter Tryz.func165, Tryz.ntmps165
  go_wp2_with fail
  refine HC.out.mono ?_
  rintro e w1 ⟨rfl, hB⟩
  go_wp2
  go_ret
  exact ⟨rfl, hB⟩
/-- the lines at the front that are not kept, as a slice of the same row -/
theorem chg_take (l : List Mk) : l.take (chgM l).length = chgM l := by
  have h := chg_rstM l
  have h2 : (chgM l ++ rstM l).take (chgM l).length = chgM l := List.take_left
  rw [h] at h2
  exact h2
theorem chg_le (l : List Mk) : (chgM l).length ≤ l.length := by
  have h := congrArg List.length (chg_rstM l)
  rw [List.length_append] at h
  omega
theorem rst_nil {l : List Mk} (h : rstM l = []) : chgM l = l := by
  have h1 := chg_rstM l
  rw [h, List.append_nil] at h1
  exact h1
/-- l[:k], l[k:] of a slice of lines with signs -/
def mslF (ao : Option Addr) (cap k : Nat) : Option Addr := if cap = k then ao else ao.map (·.add (k * 2))
theorem run_mF (ao : Option Addr) (n cap k : Nat) (hk : k ≤ n) (_ : n ≤ cap) (u : World) : (Instr.slice 57 (.slice ao n cap) (some (.int .i64 (k : Int))) none none).run Tryz.prog u = .ok (.slice (mslF ao cap k) (n - k) (cap - k)) u := by
  rw [run_slice_l (P := Tryz.prog) u 57 ao n cap (by kernel_rfl) .i64 k (by omega) (by omega)]
  have : (sizeOf (Tryz.prog.elem 57)).run Tryz.prog u = .ok 2 u := by kernel_rfl
  rw [this]
  simp [Result.andThen, sliced, mslF]
theorem maddr_zero (ad : Addr) : ad.add 0 = ad := by unfold Addr.add; split <;> simp_all
theorem run_mT (ao : Option Addr) (n cap k : Nat) (hk : k ≤ n) (hn : n ≤ cap) (u : World) : (Instr.slice 57 (.slice ao n cap) none (some (.int .i64 (k : Int))) none).run Tryz.prog u = .ok (.slice ao k cap) u := by
  rw [run_slice_h (P := Tryz.prog) u 57 ao n cap (by kernel_rfl) .i64 k (by omega) (by omega)]
  have : (sizeOf (Tryz.prog.elem 57)).run Tryz.prog u = .ok 2 u := by kernel_rfl
  rw [this]
  cases ao with
  | none => simp [Result.andThen, sliced]
  | some ad => simp [Result.andThen, sliced, maddr_zero]
theorem mhold_cap {w : World} {ao : Option Addr} {n c : Nat} {xs : List Value} (h : Holds w (.slice ao n c) n xs) : n ≤ c := by
  rcases h with ⟨h, h0, _⟩ | ⟨ad, c', h, h3, _⟩
  · omega
  · cases h; exact h3
theorem mkcells_take (l : List Mk) (k : Nat) : (mkcells l).take (k * 2) = mkcells (l.take k) := by
  induction k generalizing l with
  | zero => simp [mkcells]
  | succ k ih =>
    cases l with
    | nil => simp [mkcells]
    | cons m l =>
      have e : (k + 1) * 2 = k * 2 + 1 + 1 := by omega
      have h1 : mkcells (m :: l) = .int .u8 m.sg :: .string ⟨m.tx.toArray⟩ :: mkcells l := rfl
      have h2 : mkcells ((m :: l).take (k + 1)) = .int .u8 m.sg :: .string ⟨m.tx.toArray⟩ :: mkcells (l.take k) := rfl
      rw [e, h1, h2, List.take_succ_cons, List.take_succ_cons, ih]
theorem mkcells_drop (l : List Mk) (k : Nat) : (mkcells l).drop (k * 2) = mkcells (l.drop k) := by
  induction k generalizing l with
  | zero => simp
  | succ k ih =>
    cases l with
    | nil => simp [mkcells]
    | cons m l =>
      have e : (k + 1) * 2 = k * 2 + 1 + 1 := by omega
      have h1 : mkcells (m :: l) = .int .u8 m.sg :: .string ⟨m.tx.toArray⟩ :: mkcells l := rfl
      rw [e, h1, List.drop_succ_cons, List.drop_succ_cons, ih]
      rfl
theorem mk_to {w : World} {ao : Option Addr} {c : Nat} {l : List Mk} (h : HMk w (.slice ao l.length c) l) (k : Nat) (hk : k ≤ l.length) : HMk w (.slice ao k c) (l.take k) := by
  have hlt : (l.take k).length = k := by rw [List.length_take]; omega
  unfold HMk at h ⊢
  rw [hlt]
  rcases h with ⟨h, h0, h4⟩ | ⟨ad, c', h, h3, hc⟩
  · have hl0 : l = [] := List.eq_nil_of_length_eq_zero h0
    subst hl0
    cases h
    have hk0 : k = 0 := by simpa using hk
    subst hk0
    exact .inl ⟨by simp, rfl, by simp [mkcells]⟩
  · cases h
    refine .inr ⟨ad, c, rfl, by omega, fun j v hj => hc j v ?_⟩
    rw [← mkcells_take] at hj
    by_cases hjk : j < k * 2
    · rw [List.getElem?_take_of_lt hjk] at hj
      exact hj
    · rw [List.getElem?_eq_none (by simp; omega)] at hj
      cases hj
theorem mk_from {w : World} {ao : Option Addr} {c : Nat} {l : List Mk} (h : HMk w (.slice ao l.length c) l) (k : Nat) (hk : k ≤ l.length) : HMk w (.slice (mslF ao c k) (l.length - k) (c - k)) (l.drop k) := by
  have hlt : (l.drop k).length = l.length - k := by rw [List.length_drop]
  have hnc := mhold_cap h
  unfold HMk at h ⊢
  rw [hlt]
  rcases h with ⟨h, h0, h4⟩ | ⟨ad, c', h, h3, hc⟩
  · have hl0 : l = [] := List.eq_nil_of_length_eq_zero h0
    subst hl0
    cases h
    have hk0 : k = 0 := by simpa using hk
    subst hk0
    exact .inl ⟨by simp [mslF], rfl, by simp [mkcells]⟩
  · cases h
    refine .inr ⟨if c = k then ad else ad.add (k * 2), c - k, by unfold mslF; split <;> simp, by omega, fun j v hj => ?_⟩
    rw [← mkcells_drop, List.getElem?_drop] at hj
    have hlt2 := (List.getElem?_eq_some_iff.1 hj).1
    rw [mkcells_length] at hlt2
    rw [if_neg (by omega)]
    have h0 := hc 0 _ (List.getElem?_eq_getElem (by rw [mkcells_length]; omega))
    obtain ⟨b, off, rfl⟩ := addr_of h0
    have := hc _ _ hj
    rw [add_none] at this
    rw [add_none, add_none, Nat.add_assoc]
    exact this
set_option maxHeartbeats 1000000 in
theorem cpiece_f (l : List Mk) (ao : Option Addr) (c : Nat) (w : World) (hv : HMk w (.slice ao l.length c) l) (hl : l.length ≤ 1099511627776) (n : Nat) (HN : Hid ((chgM l).length = n)) :
    Calls Tryz.prog 164 #[.slice ao l.length c] w fun e w' => e = .returned (.slice ao n c) ∧ Below w.heap.size w w' := by
  have hnc := mhold_cap hv
  have hle := chg_le l
  rw [HN.out] at hle
  have hc := fun z HZ => cIdx_f 212 #[] l (fun m => m.sg == 32) (.slice ao l.length c) w hv hl (enters_of Tryz.func212 (by kernel_rfl) rfl) (fun m _ u _ => cisKept_f m u) z HZ
  by_cases hr : rstM l = []
  · have HE : Hid (l.length = n) := (by show _ = _; rw [← HN.out, rst_nil hr])
    have hc1 := hc (-1) (by show _ = _; rw [idxI_chg, if_pos hr])
    clear HN hr hc hv
    go_enter Tryz.func164, Tryz.ntmps164
    go_wp2_with fail
    refine hc1.mono ?_
    rintro e w1 ⟨rfl, hB⟩
    go_wp2
    go_ret
    exact ⟨by rw [HE.out]; rfl, hB⟩
  · have hc1 := hc (n : Int) (by show _ = _; rw [idxI_chg, if_neg hr, HN.out]; simp)
    have hs := run_mT ao l.length c n hle hnc
    have i1 : (0 : Int) ≤ (n : Int) := by omega
    have i2 : (n : Int) ≤ (l.length : Int) := by omega
    have i3 : (n : Int) ≤ (c : Int) := by omega
    clear HN hr hc hv
    go_enter Tryz.func164, Tryz.ntmps164
    go_wp2_with fail
    refine hc1.mono ?_
    rintro e w1 ⟨rfl, hB⟩
    go_wp2
    go_ret
    exact ⟨rfl, hB⟩
end Go.Proofs.YtgiojkhmkeocfaaGreatDoor

/- Names as the code writes them in a patch (layer 15), walked. -/
set_option maxRecDepth 20000
namespace Go.Proofs.YtgiojkhmkeocfaaGreatDoor
open Go.RowKit
attribute [local go_sem] ByteArray.extract_mk

def oddI (r : Int) : Bool := decide (r < 33) || decide (126 < r) || decide (r = 34)
set_option maxHeartbeats 1000000 in
theorem cisOdd_f (r : Int) (w : World) (q : Bool) (HQ : Hid (oddI r = q)) : Calls Tryz.prog 109 #[.int .i32 r] w fun e w' => e = .returned (.bool q) ∧ w = w' := by
  by_cases h1 : r < 33
  · have HE : Hid (true = q) := (by show _ = _; rw [← HQ.out]; simp [oddI, h1])
    go_enter Tryz.func109, Tryz.ntmps109
    go_wp2
    go_ret
    exact ⟨by rw [← HE.out]; rfl, rfl⟩
  · by_cases h2 : 126 < r
    · have HE : Hid (true = q) := (by show _ = _; rw [← HQ.out]; simp [oddI, h2])
      go_enter Tryz.func109, Tryz.ntmps109
      go_wp2
      go_ret
      exact ⟨by rw [← HE.out]; rfl, rfl⟩
    · have HE : Hid ((r == 34) = q) := (by show _ = _; rw [← HQ.out]; simp only [oddI, h1, h2, decide_false, Bool.false_or]; rfl)
      go_enter Tryz.func109, Tryz.ntmps109
      go_wp2
      go_ret
      exact ⟨by rw [← HE.out]; rfl, rfl⟩
theorem odd_name (c : UInt8) : oddI (c.toNat : Int) = !nameC c := by
  unfold oddI nameC
  rw [Bool.eq_iff_iff]
  simp only [Bool.or_eq_true, decide_eq_true_eq, Bool.not_eq_true', decide_eq_false_iff_not]
  omega
/-- where the first odd byte is, or -1 -/
def oddW : Nat → List UInt8 → Int
  | _, [] => -1
  | k, c :: l => if nameC c = true then oddW (k + 1) l else (k : Int)
theorem oddW_all (l : List UInt8) : ∀ k, decide (0 ≤ oddW k l) = !l.all nameC := by
  induction l with
  | nil => intro k; rfl
  | cons c l ih =>
    intro k
    rw [List.all_cons]
    by_cases h : nameC c = true
    · have e : oddW k (c :: l) = oddW (k + 1) l := if_pos h
      rw [e, ih, h]
      rfl
    · have e : oddW k (c :: l) = (k : Int) := if_neg h
      rw [e, Bool.eq_false_iff.2 h]
      simp
theorem oddW_step {l : List UInt8} {k : Nat} (hk : k < l.length) : oddW k (l.drop k) = if nameC l[k] = true then oddW (k + 1) (l.drop (k + 1)) else (k : Int) := by
  rw [List.drop_eq_getElem_cons hk]
  rfl
set_option maxHeartbeats 4000000 in
set_option maxRecDepth 100000 in
theorem cindexFunc_f (l : List UInt8) (w : World) (_hl : l.length ≤ 1099511627776) (z : Int) (HZ : Hid (oddW 0 l = z)) :
    Calls Tryz.prog 220 #[.string ⟨l.toArray⟩, .func (.func 109) #[] #[], .bool true] w fun e w' => e = .returned (.int .i64 z) ∧ Below w.heap.size w w' := by
  go_enter Tryz.func220, Tryz.ntmps220
  go_wp2
  go_loopw [] (fun wr => ∃ pos : Nat, pos ≤ l.length ∧ wr.heap[w.heap.size]? = some (.stringIter ⟨l.toArray⟩ pos) ∧ Below w.heap.size w wr ∧ Hid (oddW pos (l.drop pos) = z)) (fun wr => l.length - wr.iterPos w.heap.size)
  case atStart => exact ⟨0, Nat.zero_le _, World.iter_heap w _ 0, (Below.refl _ w).alloc (Nat.le_refl _) _, HZ⟩
  case round =>
    obtain ⟨pos, hp, hit, hbr, HA⟩ := hrel
    have hwl : w.heap.size < wr.heap.size := (Array.getElem?_eq_some_iff.1 hit).1
    by_cases hlt : pos < l.length
    · have HS := HA.out
      rw [oddW_step hlt] at HS
      by_cases ha : l[pos].toNat < 128
      · have hnx : ∀ ty, (Instr.next (.pointer (some ⟨w.heap.size, 0, none⟩)) true ty).run Tryz.prog wr = _ := fun ty => Lib.run_next_ascii_at wr w.heap.size ⟨l.toArray⟩ pos ty hit hlt ha
        have hit2 := Lib.iterAt_heap wr w.heap.size ⟨l.toArray⟩ pos (pos + 1) hit
        have hbr2 := Lib.below_iterAt hbr (k := w.heap.size) (Nat.le_refl _) ⟨l.toArray⟩ (pos + 1)
        cases hn : nameC l[pos] with
        | true =>
          have HI : Hid (oddW (pos + 1) (l.drop (pos + 1)) = z) := (by rw [hn, if_pos rfl] at HS; exact HS)
          have hc := fun u => cisOdd_f (l[pos].toNat : Int) u false (by show _ = _; rw [odd_name, hn]; rfl)
          clear HS hn HA
          go_wp2_with fail
          refine (hc _).mono ?_
          rintro e w4 ⟨rfl, rfl⟩
          go_wp2
          go_roundw
          case rel => exact ⟨pos + 1, by omega, hit2, hbr2, HI⟩
          case measure => simp only [World.iterPos, hit, hit2]; omega
        | false =>
          have HE : Hid ((pos : Int) = z) := (by rw [hn, if_neg (by decide)] at HS; exact HS)
          have hc := fun u => cisOdd_f (l[pos].toNat : Int) u true (by show _ = _; rw [odd_name, hn]; rfl)
          clear HS hn HA
          go_wp2_with fail
          refine (hc _).mono ?_
          rintro e w4 ⟨rfl, rfl⟩
          go_wp2
          go_ret
          exact ⟨by rw [HE.out]; rfl, hbr2⟩
      · have hdh := (decode_high ⟨l.toArray⟩ pos hlt (by show 128 ≤ l[pos].toNat; omega))
        have hnx : ∀ ty, (Instr.next (.pointer (some ⟨w.heap.size, 0, none⟩)) true ty).run Tryz.prog wr = _ := fun ty => Lib.run_next_any_at wr w.heap.size ⟨l.toArray⟩ pos ty hit hlt
        have hbr2 := Lib.below_iterAt hbr (k := w.heap.size) (Nat.le_refl _) ⟨l.toArray⟩ (pos + (Utf8.decode ⟨l.toArray⟩ pos).2)
        have hdl := decode_le ⟨l.toArray⟩ pos
        have HE : Hid ((pos : Int) = z) := (by
          have hn : nameC l[pos] = false := (by unfold nameC; exact decide_eq_false (by omega))
          rw [hn, if_neg (by decide)] at HS
          exact HS)
        obtain ⟨hd1, hd2⟩ := hdh
        generalize Utf8.decode ⟨l.toArray⟩ pos = dd at *
        have hc := fun u => cisOdd_f (dd.1 : Int) u true (by
          show _ = _
          unfold oddI
          have : decide (126 < (dd.1 : Int)) = true := decide_eq_true (by omega)
          rw [this]
          simp)
        clear HS HA
        go_wp2_with fail
        refine (hc _).mono ?_
        rintro e w4 ⟨rfl, rfl⟩
        go_wp2
        go_ret
        exact ⟨by rw [HE.out]; rfl, hbr2⟩
    · have hnx : ∀ ty, (Instr.next (.pointer (some ⟨w.heap.size, 0, none⟩)) true ty).run Tryz.prog wr = _ := fun ty => Lib.run_next_end_at wr w.heap.size ⟨l.toArray⟩ pos ty hit hlt
      have HE : Hid (-1 = z) := (by
        have h := HA.out
        rw [List.drop_of_length_le (by omega)] at h
        exact h)
      clear HA
      go_wp2
      go_ret
      exact ⟨by rw [HE.out]; rfl, hbr⟩
set_option maxHeartbeats 1000000 in
theorem cIndexFunc_f (l : List UInt8) (w : World) (hl : l.length ≤ 1099511627776) (z : Int) (HZ : Hid (oddW 0 l = z)) :
    Calls Tryz.prog 162 #[.string ⟨l.toArray⟩, .func (.func 109) #[] #[]] w fun e w' => e = .returned (.int .i64 z) ∧ Below w.heap.size w w' := by
  go_enter Tryz.func162, Tryz.ntmps162
  go_wp2_with fail
  refine (cindexFunc_f l w hl z HZ).mono ?_
  rintro e w1 ⟨rfl, hB⟩
  go_wp2
  go_ret
  exact ⟨rfl, hB⟩
set_option maxHeartbeats 1000000 in
theorem cContainsFunc_f (l : List UInt8) (w : World) (hl : l.length ≤ 1099511627776) (q : Bool) (HQ : Hid ((!l.all nameC) = q)) :
    Calls Tryz.prog 108 #[.string ⟨l.toArray⟩, .func (.func 109) #[] #[]] w fun e w' => e = .returned (.bool q) ∧ Below w.heap.size w w' := by
  obtain ⟨z, hz⟩ : ∃ z, oddW 0 l = z := ⟨_, rfl⟩
  have HC := cIndexFunc_f l w hl z hz
  have HZ : Hid (decide (0 ≤ z) = q) := (by show _ = _; rw [← hz, oddW_all]; exact HQ.out)
  clear hz HQ
  go_enter Tryz.func108, Tryz.ntmps108
  go_wp2_with fail
  refine HC.mono ?_
  rintro e w1 ⟨rfl, hB⟩
  go_wp2
  go_ret
  exact ⟨by rw [HZ.out]; rfl, hB⟩
set_option maxHeartbeats 2000000 in
theorem cname_f (l : List UInt8) (w : World) (hl : l.length ≤ 1099511627776) (t : List UInt8) (HT : Hid (nameT l = t)) :
    Calls Tryz.prog 66 #[.string ⟨l.toArray⟩] w fun e w' => e = .returned (.string ⟨t.toArray⟩) ∧ Below w.heap.size w w' := by
  by_cases h0 : l = []
  · have HE : Hid (devN = t) := (by have h := HT.out; unfold nameT at h; rw [if_pos h0] at h; exact h)
    subst h0
    go_enter Tryz.func66, Tryz.ntmps66
    go_wp2
    go_ret
    exact ⟨by rw [← HE.out]; rfl, Below.refl _ _⟩
  · have e0 : l.isEmpty = false := (by cases l with | nil => exact absurd rfl h0 | cons _ _ => rfl)
    have hq := Quote_any l
    by_cases h1 : l = devN
    · have HE : Hid (Q.quote l = t) := (by have h := HT.out; unfold nameT at h; rw [if_neg h0, if_neg (fun q => q.2 h1)] at h; exact h)
      have e1 : (l == [47, 100, 101, 118, 47, 110, 117, 108, 108]) = true := (by rw [beq_iff_eq]; exact h1)
      clear HT h1
      go_enter Tryz.func66, Tryz.ntmps66
      go_wp2_with fail
      refine (hq _ hl).mono ?_
      rintro e w1 ⟨rfl, hB⟩
      go_wp2
      go_ret
      exact ⟨by rw [← HE.out]; rfl, hB⟩
    · have e1 : (l == [47, 100, 101, 118, 47, 110, 117, 108, 108]) = false := beq_eq_false_iff_ne.2 h1
      cases hn : l.all nameC with
      | true =>
        have HE : Hid (l = t) := (by have h := HT.out; unfold nameT at h; rw [if_neg h0, if_pos ⟨hn, h1⟩] at h; exact h)
        have hc := fun u => cContainsFunc_f l u hl false (by show _ = _; rw [hn]; rfl)
        clear HT h1 hn
        go_enter Tryz.func66, Tryz.ntmps66
        go_wp2_with fail
        refine (hc _).mono ?_
        rintro e w1 ⟨rfl, hB⟩
        go_wp2
        go_ret
        exact ⟨by rw [← HE.out]; rfl, hB⟩
      | false =>
        have HE : Hid (Q.quote l = t) := (by have h := HT.out; unfold nameT at h; rw [if_neg h0, if_neg (fun q => by rw [hn] at q; cases q.1)] at h; exact h)
        have hc := fun u => cContainsFunc_f l u hl true (by show _ = _; rw [hn]; rfl)
        clear HT h1 hn
        go_enter Tryz.func66, Tryz.ntmps66
        go_wp2_with fail
        refine (hc _).mono ?_
        rintro e w1 ⟨rfl, hB⟩
        go_wp2_with fail
        refine (hq _ hl).mono ?_
        rintro e w2 ⟨rfl, hB2⟩
        go_wp2
        go_ret
        exact ⟨by rw [← HE.out]; rfl, hB.trans (hB2.mono hB.size)⟩
end Go.Proofs.YtgiojkhmkeocfaaGreatDoor

/- num.quotedByte, walked. -/
set_option maxRecDepth 20000
namespace Go.Proofs.YtgiojkhmkeocfaaGreatDoor
open Q Go.RowKit Go.Proofs.YtgiojkhmkeocfaaGreatDoor.Tx
attribute [local go_sem] ba_at hexl_at


theorem idx_hex (x : UInt8) : Lib.indexByte [48, 49, 50, 51, 52, 53, 54, 55, 56, 57, 97, 98, 99, 100, 101, 102] x = digitI x.toNat := by
  have key : ∀ i : Fin 256, Lib.indexByte [48, 49, 50, 51, 52, 53, 54, 55, 56, 57, 97, 98, 99, 100, 101, 102] (UInt8.ofNat i.val) = digitI (i.val : Int) := by decide +kernel
  have := key ⟨x.toNat, x.toNat_lt⟩
  simpa using this

theorem IndexByte_hex (x : UInt8) (w : World) :
    Calls Tryz.prog 272 #[.string ⟨#[48, 49, 50, 51, 52, 53, 54, 55, 56, 57, 97, 98, 99, 100, 101, 102]⟩, .int .u8 (x.toNat : Int)] w fun e w' => e = .returned (.int .i64 (digitI x.toNat)) ∧ w' = w := by
  have h := Tryz.strings_IndexByte ⟨#[48, 49, 50, 51, 52, 53, 54, 55, 56, 57, 97, 98, 99, 100, 101, 102]⟩ (x.toNat : Int) w
  refine h.mono ?_
  rintro e w' ⟨rfl, rfl⟩
  have e : ((x.toNat : Int).toNat).toUInt8 = x := by simp
  rw [e, ← idx_hex]
  exact ⟨rfl, rfl⟩

theorem or_nib (x y : Int) (h0 : 0 ≤ x) (h1 : x ≤ 15) (h2 : 0 ≤ y) (h3 : y ≤ 15) : bits BinOp.or IntKind.i64 (x * 16) y % 256 = 16 * x + y := by
  have key : ∀ i j : Fin 16, bits BinOp.or IntKind.i64 ((i.val : Int) * 16) (j.val : Int) % 256 = 16 * (i.val : Int) + (j.val : Int) := by decide +kernel
  have := key ⟨x.toNat, by omega⟩ ⟨y.toNat, by omega⟩
  simp only [Int.toNat_of_nonneg h0, Int.toNat_of_nonneg h2] at this
  exact this

set_option maxHeartbeats 1000000 in
theorem quotedByte_two (a b : UInt8) (t : List UInt8) (w : World) :
    Calls Tryz.prog 246 #[.string ⟨((92 : UInt8) :: a :: b :: t).toArray⟩] w fun e w' => e = .returned (.tuple #[.int .u8 (pv a b), .int .i64 (pn a b)]) ∧ ∃ n, w' = w.drewN n := by
  have hp : plainI 92 = false := by decide
  obtain ⟨ha, ha'⟩ := digitI_ge a.toNat
  obtain ⟨hb, hb'⟩ := digitI_ge b.toNat
  go_enter Tryz.func246, Tryz.ntmps246
  go_wp2_with fail
  refine (isPlain_any _ _).mono ?_
  rintro e w' ⟨rfl, rfl⟩
  go_wp2_with fail
  go_quiet ((go_at_call 272; exact Calls.quiet_of_same (IndexByte_hex _ _)))
  by_cases h1 : digitI a.toNat < 0
  · go_wp2
    go_ret2
    exact ⟨ret_two (pv_no (pairOk_lo h1)) (pn_no (pairOk_lo h1)), _, rfl⟩
  · by_cases h2 : digitI b.toNat < 0
    · go_wp2
      go_ret2
      exact ⟨ret_two (pv_no (pairOk_hi h2)) (pn_no (pairOk_hi h2)), _, rfl⟩
    · go_wp2_with fail
      rw [or_nib _ _ (by omega) ha' (by omega) hb']
      refine (isPlain_any _ _).mono ?_
      rintro e w' ⟨rfl, rfl⟩
      have hm := pairOk_mid (a := a) (b := b) (by omega) (by omega)
      have HM : Hid (pairOk a b = !plainI (16 * digitI a.toNat + digitI b.toNat)) := hm
      clear hm
      cases hpl : plainI (16 * digitI a.toNat + digitI b.toNat)
      · go_wp2
        go_ret2
        have hk : pairOk a b = true := by rw [HM.out, hpl]; rfl
        exact ⟨ret_two (pv_yes hk) (pn_yes hk), _, rfl⟩
      · go_wp2
        go_ret2
        have hk : pairOk a b = false := by rw [HM.out, hpl]; rfl
        exact ⟨ret_two (pv_no hk) (pn_no hk), _, rfl⟩

set_option maxHeartbeats 1000000 in
theorem quotedByte_plain (c : UInt8) (t : List UInt8) (w : World) (h : plainI c.toNat = true) :
    Calls Tryz.prog 246 #[.string ⟨(c :: t).toArray⟩] w fun e w' => e = .returned (.tuple #[.int .u8 (c.toNat : Int), .int .i64 1]) ∧ ∃ n, w' = w.drewN n := by
  go_enter Tryz.func246, Tryz.ntmps246
  go_wp2_with fail
  refine (isPlain_any _ _).mono ?_
  rintro e w' ⟨rfl, rfl⟩
  go_wp2
  go_ret2
  exact ⟨rfl, 0, rfl⟩

set_option maxHeartbeats 1000000 in
theorem quotedByte_none (c : UInt8) (t : List UInt8) (w : World) (h : plainI c.toNat = false) (h2 : ¬ (c.toNat = 92 ∧ 2 ≤ t.length)) :
    Calls Tryz.prog 246 #[.string ⟨(c :: t).toArray⟩] w fun e w' => e = .returned (.tuple #[.int .u8 0, .int .i64 0]) ∧ ∃ n, w' = w.drewN n := by
  by_cases h3 : c.toNat = 92
  · have hb : ((c.toNat : Int) != 92) = false := by simp; omega
    have hl : ((t.length : Int) + 1 < 3) := by omega
    clear h2
    go_enter Tryz.func246, Tryz.ntmps246
    go_wp2_with fail
    refine (isPlain_any _ _).mono ?_
    rintro e w' ⟨rfl, rfl⟩
    go_wp2
    go_ret2
    exact ⟨rfl, 0, rfl⟩
  · have hb : ((c.toNat : Int) != 92) = true := by simp; omega
    clear h2
    go_enter Tryz.func246, Tryz.ntmps246
    go_wp2_with fail
    refine (isPlain_any _ _).mono ?_
    rintro e w' ⟨rfl, rfl⟩
    go_wp2
    go_ret2
    exact ⟨rfl, 0, rfl⟩
end Go.Proofs.YtgiojkhmkeocfaaGreatDoor

/- num.Unquote, walked: what it returns is what the plain function unquote says. -/
set_option maxRecDepth 20000
namespace Go.Proofs.YtgiojkhmkeocfaaGreatDoor
open Q Go.RowKit Go.Proofs.YtgiojkhmkeocfaaGreatDoor.Tx
attribute [local go_sem] ba_at ByteArray.extract_mk

def sizeS : Value → Nat
  | .string s => s.data.size
  | _ => 0

theorem ret_uq {l a b : List UInt8} {n : Int} (h : uqa l = a ∧ uqb l = b ∧ uqe l = n) : Ending.returned (.tuple #[.string ⟨a.toArray⟩, .string ⟨b.toArray⟩, .int .i64 n]) = .returned (.tuple #[.string ⟨(uqa l).toArray⟩, .string ⟨(uqb l).toArray⟩, .int .i64 (uqe l)]) := by
  rw [h.1, h.2.1, h.2.2]

set_option maxHeartbeats 2000000 in
set_option maxRecDepth 100000 in
theorem Unquote_body (l : List UInt8) (w : World) (hl : l.length ≤ 1099511627776) :
    Calls Tryz.prog 202 #[.string ⟨((34 : UInt8) :: l).toArray⟩] w fun e w' => e = .returned (.tuple #[.string ⟨(uqa (34 :: l)).toArray⟩, .string ⟨(uqb (34 :: l)).toArray⟩, .int .i64 (uqe (34 :: l))]) ∧ Below w.heap.size w w' := by
  have HU : Hid (unquote (34 :: l) = body l) := by show unquote (34 :: l) = body l; simp [unquote]
  go_enter Tryz.func202, Tryz.ntmps202
  go_wp2
  go_loopw [6] (fun rest wr => ∃ (r acc : List UInt8) (v : Value), rest = .string ⟨r.toArray⟩ ∧ Bld 77 5 w.heap.size w.heap.size v (Lib.byteCells acc) wr ∧ Below w.heap.size w wr ∧ body l = (body r).map (fun p => (acc ++ p.1, p.2)) ∧ acc.length + r.length ≤ l.length) (fun rest _ => sizeS rest)
  case atStart => exact ⟨l, [], _, rfl, Bld.fresh 77 5 w, (Below.refl _ w).alloc (Nat.le_refl _) _, by simp, by simp⟩
  case round =>
    obtain ⟨r, acc, v, rfl, hB, hbr, hbody, hal⟩ := hrel
    have HB : Hid (body l = (body r).map (fun p => (acc ++ p.1, p.2))) := hbody
    clear hbody
    match r, hal, HB with
    | [], hal, HB =>
      go_wp2
      go_ret3
      exact ⟨ret_uq (uq_none (by rw [HU.out, HB.out]; rfl)), hbr⟩
    | c :: t, hal, HB =>
      have hc := c.toNat_lt
      by_cases h34 : c.toNat = 34
      · have hb : ((c.toNat : Int) != 34) = false := by simp; omega
        have HE : Hid (unquote (34 :: l) = some (acc, t)) := by
          show unquote (34 :: l) = some (acc, t)
          rw [HU.out, HB.out, body_end t h34]; simp
        clear h34
        have hI : Lib.IsBuilderF 77 5 w.heap.size w.heap.size (Lib.byteCells acc) wr.drew := hB.isF
        have hsz : w.heap.size ≤ wr.drew.heap.size := hbr.size
        go_wp2_with fail
        go_region_with (go_at_call 41; refine (Tryz.Builder_String_any_k w.heap.size w.heap.size acc _ hI hsz).mono ?_; rintro e w4 ⟨rfl, _, hb4, _⟩)
        all_goals
          go_wp2
          go_ret3
          exact ⟨ret_uq (uq_some HE.out), hbr.drew.trans hb4⟩
      · have hb : ((c.toNat : Int) != 34) = true := by simp; omega
        cases hpl : plainI c.toNat
        · by_cases h92 : c.toNat = 92 ∧ 2 ≤ t.length
          · match t, hal, HB, h92 with
            | a :: b :: t, hal, HB, ⟨h92, _⟩ =>
              obtain rfl : c = 92 := UInt8.toNat_inj.1 h92
              cases hk : pairOk a b
              · have HE : Hid (unquote (34 :: l) = none) := by
                  show unquote (34 :: l) = none
                  rw [HU.out, HB.out, body_pair_no t h92 hk]; rfl
                have h1 : pv a b = 0 := (pv_no hk).symm
                have h2 : pn a b = 0 := (pn_no hk).symm
                go_wp2_with fail
                refine (quotedByte_two a b t _).mono ?_
                rintro e w4 ⟨rfl, nq, rfl⟩
                go_wp2
                go_ret3
                exact ⟨ret_uq (uq_none HE.out), below_drewN hbr nq⟩
              · have HE : Hid (body l = (body t).map (fun p => (acc ++ [UInt8.ofNat (pairI a b).toNat] ++ p.1, p.2))) := by
                  show body l = _
                  rw [HB.out, body_pair t h92 hk]; simp [Function.comp_def]
                have h2 : pn a b = 3 := (pn_yes hk).symm
                have hpb := pairI_byte hk
                have HV : Hid (pv a b = ((UInt8.ofNat (pairI a b).toNat).toNat : Int)) := by
                  show pv a b = _
                  rw [← pv_yes hk]
                  simp only [UInt8.toNat_ofNat']
                  omega
                clear hpb
                go_wp2_with fail
                refine (quotedByte_two a b t _).mono ?_
                rintro e w4 ⟨rfl, nq, rfl⟩
                go_wp2_with fail
                rw [HV.out]
                refine (WriteByte_any w.heap.size w.heap.size v _ _ _ (Bld.drewN hB nq) (by rw [Lib.byteCells_length]; omega) hbr.size).mono ?_
                rintro e w5 ⟨rfl, v5, hB5, _, _, hb5⟩
                go_wp2
                go_roundw
                case rel => exact ⟨t, acc ++ [UInt8.ofNat (pairI a b).toNat], v5, rfl, by rw [byteCells_snoc]; exact hB5, (below_drewN hbr nq).trans hb5, HE.out, by simp at hal ⊢; omega⟩
                case measure => first | (simp [sizeS]; done) | (simp [sizeS]; omega)
          · have HE : Hid (unquote (34 :: l) = none) := by
              show unquote (34 :: l) = none
              rw [HU.out, HB.out, body_none t h34 hpl h92]; rfl
            go_wp2_with fail
            refine (quotedByte_none c t _ hpl h92).mono ?_
            rintro e w4 ⟨rfl, nq, rfl⟩
            go_wp2
            go_ret3
            exact ⟨ret_uq (uq_none HE.out), below_drewN hbr nq⟩
        · have HE : Hid (body l = (body t).map (fun p => (acc ++ [c] ++ p.1, p.2))) := by
            show body l = _
            rw [HB.out, body_plain t hpl]; simp [Function.comp_def]
          go_wp2_with fail
          refine (quotedByte_plain c t _ hpl).mono ?_
          rintro e w4 ⟨rfl, nq, rfl⟩
          go_wp2_with fail
          refine (WriteByte_any w.heap.size w.heap.size v _ _ _ (Bld.drewN hB nq) (by rw [Lib.byteCells_length]; simp at hal; omega) hbr.size).mono ?_
          rintro e w5 ⟨rfl, v5, hB5, _, _, hb5⟩
          go_wp2
          go_roundw
          case rel => exact ⟨t, acc ++ [c], v5, rfl, by rw [byteCells_snoc]; exact hB5, (below_drewN hbr nq).trans hb5, HE.out, by simp at hal ⊢; omega⟩
          case measure => first | (simp [sizeS]; done) | (simp [sizeS]; omega)

set_option maxHeartbeats 1000000 in
theorem Unquote_any (l : List UInt8) (w : World) (hl : l.length ≤ 1099511627776) :
    Calls Tryz.prog 202 #[.string ⟨l.toArray⟩] w fun e w' => e = .returned (.tuple #[.string ⟨(uqa l).toArray⟩, .string ⟨(uqb l).toArray⟩, .int .i64 (uqe l)]) ∧ Below w.heap.size w w' := by
  match l, hl with
  | [], _ =>
    go_enter Tryz.func202, Tryz.ntmps202
    go_wp2
    go_ret3
    exact ⟨ret_uq (uq_none rfl), Below.refl _ _⟩
  | c :: t, hl =>
    by_cases h : c.toNat = 34
    · obtain rfl : c = 34 := UInt8.toNat_inj.1 h
      exact Unquote_body t w (by simp at hl; omega)
    · have hb : ((c.toNat : Int) != 34) = true := by simp; omega
      have HU : Hid (unquote (c :: t) = none) := by show unquote (c :: t) = none; simp [unquote, h]
      clear h
      go_enter Tryz.func202, Tryz.ntmps202
      go_wp2
      go_ret3
      exact ⟨ret_uq (uq_none HU.out), Below.refl _ _⟩
end Go.Proofs.YtgiojkhmkeocfaaGreatDoor

/- The code's reader of layer 15, walked: what is wrong is thrown; the next line, bare; the end of a side; stars. -/
set_option maxRecDepth 20000
namespace Go.Proofs.YtgiojkhmkeocfaaGreatDoor
open Go.RowKit
attribute [local go_sem] ByteArray.extract_mk no_at

/-- a reader: its lines, how many are read -/
def ckO (vL : Value) (p : Int) : Obj := .cells #[vL, .int .i64 p] 105
def Ck (u : World) (R : Nat) (vL : Value) (p : Int) : Prop := u.heap[R]? = some (ckO vL p)
section
variable {u u' : World} {R : Nat} {vL : Value} {p : Int}
theorem Ck.cells (q : Ck u R vL p) : u.cell? ⟨R, 0, none⟩ = some vL ∧ u.cell? ⟨R, 1, none⟩ = some (.int .i64 p) := by
  unfold Ck ckO at q
  refine ⟨?_, ?_⟩ <;> rw [Lib.cell_of_heap q] <;> rfl
theorem Ck.frozen (q : Ck u R vL p) (j : Nat) : u.frozen? ⟨R, j, none⟩ = false := Lib.frozen_of_heap q j
theorem Ck.lt (q : Ck u R vL p) : R < u.heap.size := (Array.getElem?_eq_some_iff.1 q).1
theorem Ck.dN (q : Ck u R vL p) (n : Nat) : Ck (u.drewN n) R vL p := q
theorem Ck.at (q : Ck u R vL p) (p' : Int) : Ck (u.setCell ⟨R, 1, none⟩ (.int .i64 p')) R vL p' := heap_setCell_same u R 1 _ _ (.int .i64 p') q
theorem Ck.low (q : Ck u R vL p) (hg : Below u.heap.size u u') : Ck u' R vL p := (hg.block R q.lt).trans q
theorem Ck.keep (q : Ck u R vL p) {g : Option Nat} (hg : u.grownBy u' g) (hr : some R ≠ g) : Ck u' R vL p := (hg.block R q.lt hr).trans q
end
set_option maxHeartbeats 1000000 in
theorem cthrow_f (a z : Int) (w : World) :
    Calls Tryz.prog 148 #[.int .i64 a, .int .i64 z] w fun x w' => Thr a z x w' ∧ Below w.heap.size w w' := by
  have HQ : Hid ((w.alloc (fltO a z)).heap[w.heap.size]? = some (fltO a z) ∧ Below w.heap.size w (w.alloc (fltO a z))) := ⟨heap_alloc_new w _, (Below.refl _ w).alloc (Nat.le_refl _) _⟩
  go_enter Tryz.func148, Tryz.ntmps148
  go_wp2
  exact ⟨rfl, ⟨_, rfl, HQ.out.1⟩, HQ.out.2⟩
set_option maxHeartbeats 1000000 in
theorem crefuse_f {R : Nat} {vL : Value} {p : Nat} (z : Int) (w : World) (q : Ck w R vL (p : Int)) (hp : p ≤ 4398046511104) :
    Calls Tryz.prog 94 #[.pointer (some ⟨R, 0, none⟩), .int .i64 z] w fun x w' => Thr ((p : Int) + 1) z x w' ∧ w.grownBy w' (some R) := by
  obtain ⟨c0, c1⟩ := q.cells
  clear q
  go_enter Tryz.func94, Tryz.ntmps94
  go_wp2_with fail
  refine (cthrow_f ((p : Int) + 1) z w).mono ?_
  rintro x w1 ⟨⟨g, rfl, hg⟩, hb⟩
  go_wp2
  exact ⟨rfl, ⟨_, rfl, hg⟩, low_grown hb _⟩
set_option maxHeartbeats 4000000 in
theorem crline_f {R : Nat} {L : List (List UInt8)} {lo : Option Addr} {lc : Nat} {p : Nat} (w : World) (q : Ck w R (.slice lo L.length lc) p) (hL : HS w (.slice lo L.length lc) L) (hp : p ≤ L.length) (hLl : L.length ≤ 2199023255552) (hs : ∀ s ∈ L, s.length ≤ 1099511627776)
    (X : Except (Nat × Int) (List UInt8 × List (List UInt8))) (HX : Hid (nxt p (L.drop p) = X)) :
    Calls Tryz.prog 203 #[.pointer (some ⟨R, 0, none⟩)] w fun x w' => LnQ R (.slice lo L.length lc) p X w x w' := by
  have hX := HX.out
  clear HX
  by_cases hlt : p < L.length
  · rw [nxt_drop hlt] at hX
    obtain ⟨bk, off, rfl, hbk, hcl⟩ := HS.at hL (by omega)
    have d4 := hcl p hlt
    have hsl := hs L[p] (List.getElem_mem _)
    generalize L[p] = s at d4 hsl hX
    clear hcl hs hL
    obtain ⟨c0, c1⟩ := q.cells
    have e0 : ((p : Int) == (L.length : Int)) = false := beq_eq_false_iff_ne.2 (by omega)
    have i1 : (0 : Int) ≤ (p : Int) := by omega
    have i2 : (p : Int) < (L.length : Int) := by omega
    have i3 : (p : Int).toNat = p := by omega
    cases hf : fdB s with
    | true =>
      rw [if_pos hf] at hX
      subst hX
      have HD : Hid (s.dropLast ++ [10] = s) := drop_feed hf
      clear q
      go_enter Tryz.func203, Tryz.ntmps203
      go_wp2_with fail
      go_quiet (fail)
      go_wp2_with fail
      have c0' : (w.drewN nq).cell? ⟨R, 0, none⟩ = _ := c0
      have c1' : (w.drewN nq).cell? ⟨R, 1, none⟩ = _ := c1
      have d4' : (w.drewN nq).cell? ⟨bk, off + p, none⟩ = _ := d4
      have HM : Hid (∀ n, ∃ k, (w.drewN nq).drewN n = w.drewN k) := fun n => ⟨_, World.drewN_drewN w nq n⟩
      clear c0 c1 d4
      generalize w.drewN nq = W1 at c0' c1' d4' HM ⊢
      have j1 : (0 : Int) ≤ (p : Int) := by omega
      have j2 : (p : Int) < (L.length : Int) := by omega
      have j3 : (p : Int).toNat = p := by omega
      go_quiet (fail)
      go_wp2_with fail
      refine (Tryz.strings_HasSuffix ⟨s.toArray⟩ ⟨#[10]⟩ _ (by show s.length ≤ _; omega)).mono ?_
      rintro e w2 ⟨rfl, rfl⟩
      have e1 : Lib.hasSuffix (⟨s.toArray⟩ : ByteArray).data.toList (⟨#[10]⟩ : ByteArray).data.toList = true := (suf_feed s).trans hf
      rw [e1]
      clear e1 hf
      go_wp2
      go_ret
      refine ⟨?_, HM.out _⟩
      rw [HD.out]
      rfl
    | false =>
      rw [if_neg (by rw [hf]; decide)] at hX
      subst hX
      have q0 := q
      clear q
      go_enter Tryz.func203, Tryz.ntmps203
      go_wp2_with fail
      go_quiet (fail)
      go_wp2_with fail
      have c0' : (w.drewN nq).cell? ⟨R, 0, none⟩ = _ := c0
      have c1' : (w.drewN nq).cell? ⟨R, 1, none⟩ = _ := c1
      have d4' : (w.drewN nq).cell? ⟨bk, off + p, none⟩ = _ := d4
      have HM : Hid (∀ n, w.grownBy ((w.drewN nq).drewN n) (some R)) := fun n => grown_drewN (grown_drewN (low_grown (Below.refl _ _) _) nq) n
      have HQ : Hid (∀ n, Ck ((w.drewN nq).drewN n) R (.slice (some ⟨bk, off, none⟩) L.length lc) p) := fun n => (q0.dN nq).dN n
      clear c0 c1 d4 q0
      generalize w.drewN nq = W1 at c0' c1' d4' HM HQ ⊢
      have j1 : (0 : Int) ≤ (p : Int) := by omega
      have j2 : (p : Int) < (L.length : Int) := by omega
      have j3 : (p : Int).toNat = p := by omega
      go_quiet (fail)
      go_wp2_with fail
      refine (Tryz.strings_HasSuffix ⟨s.toArray⟩ ⟨#[10]⟩ _ (by show s.length ≤ _; omega)).mono ?_
      rintro e w2 ⟨rfl, rfl⟩
      have e1 : Lib.hasSuffix (⟨s.toArray⟩ : ByteArray).data.toList (⟨#[10]⟩ : ByteArray).data.toList = false := (suf_feed s).trans hf
      rw [e1]
      clear e1 hf
      go_wp2_with fail
      refine (crefuse_f 3 _ (HQ.out _) (by omega)).mono ?_
      rintro e w3 ⟨⟨g, rfl, hg⟩, hgr⟩
      go_wp2
      exact ⟨rfl, ⟨_, rfl, hg⟩, grown_two (HM.out _) hgr⟩
  · rw [nxt_end (by omega)] at hX
    subst hX
    obtain ⟨c0, c1⟩ := q.cells
    have e0 : ((p : Int) == (L.length : Int)) = true := beq_iff_eq.2 (by omega)
    have HM : Hid (∀ n, w.grownBy (w.drewN n) (some R)) := fun n => grown_drewN (low_grown (Below.refl _ _) _) n
    have HQ : Hid (∀ n, Ck (w.drewN n) R (.slice lo L.length lc) p) := fun n => q.dN n
    clear q hs hL
    go_enter Tryz.func203, Tryz.ntmps203
    go_wp2_with fail
    go_quiet (fail)
    go_wp2_with fail
    refine (crefuse_f 1 _ (HQ.out _) (by omega)).mono ?_
    rintro e w3 ⟨⟨g, rfl, hg⟩, hgr⟩
    go_wp2
    exact ⟨rfl, ⟨_, rfl, hg⟩, grown_two (HM.out _) hgr⟩
set_option maxHeartbeats 4000000 in
theorem crend_no {R g o : Nat} {L : List (List UInt8)} {lo : Option Addr} {lc : Nat} {p : Nat} (w : World) (q : Ck w R (.slice lo L.length lc) p) (hL : HS w (.slice lo L.length lc) L) (hPl : Plain L) (hp : p ≤ L.length) (hLl : L.length ≤ 2199023255552)
    (t : List UInt8) (ct : w.cell? ⟨g, o + 1, none⟩ = some (.string ⟨t.toArray⟩)) (HB : Hid ((t != [10] && pkM (L.drop p)) = false)) :
    Calls Tryz.prog 208 #[.pointer (some ⟨R, 0, none⟩), .pointer (some ⟨g, o, none⟩)] w fun x w' => x = .returned (.tuple #[]) ∧ ∃ n, w' = w.drewN n := by
  obtain ⟨c0, c1⟩ := q.cells
  by_cases ht : t = [10]
  · subst ht
    clear HB hL q
    go_enter Tryz.func208, Tryz.ntmps208
    go_wp2_with fail
    go_quiet (fail)
    go_wp2
    first
      | go_end0
      | refine bodyPost_ret (results_none rfl _ _ _) rfl ?_
      | refine bodyPost_end (results_none rfl _ _ _) rfl ?_
    exact ⟨rfl, _, rfl⟩
  · have e1 : (t == [10]) = false := beq_eq_false_iff_ne.2 ht
    by_cases hlt : p < L.length
    · have hm : (L[p] == markT) = false := (by
        have h := HB.out
        rw [pkM_at hPl hlt] at h
        have : (t != [10]) = true := bne_iff_ne.2 ht
        rw [this, Bool.true_and] at h
        exact h)
      obtain ⟨bk, off, rfl, hbk, hcl⟩ := HS.at hL (by omega)
      have d4 := hcl p hlt
      generalize L[p] = s at d4 hm
      have hm2 : (s == [92, 32, 78, 111, 32, 110, 101, 119, 108, 105, 110, 101, 32, 97, 116, 32, 101, 110, 100, 32, 111, 102, 32, 102, 105, 108, 101, 10]) = false := hm
      have hm3 : (s != [92, 32, 78, 111, 32, 110, 101, 119, 108, 105, 110, 101, 32, 97, 116, 32, 101, 110, 100, 32, 111, 102, 32, 102, 105, 108, 101, 10]) = true := (by unfold bne; rw [hm2]; rfl)
      have e0 : ((p : Int) == (L.length : Int)) = false := beq_eq_false_iff_ne.2 (by omega)
      clear HB hL q hcl hm hPl
      have i1 : (0 : Int) ≤ (p : Int) := by omega
      have i2 : (p : Int) < (L.length : Int) := by omega
      have i3 : (p : Int).toNat = p := by omega
      go_enter Tryz.func208, Tryz.ntmps208
      go_wp2_with fail
      go_quiet (fail)
      go_wp2
      first
        | go_end0
        | refine bodyPost_ret (results_none rfl _ _ _) rfl ?_
        | refine bodyPost_end (results_none rfl _ _ _) rfl ?_
      exact ⟨rfl, _, rfl⟩
    · have e0 : ((p : Int) == (L.length : Int)) = true := beq_iff_eq.2 (by omega)
      clear HB hL q hPl
      go_enter Tryz.func208, Tryz.ntmps208
      go_wp2_with fail
      go_quiet (fail)
      go_wp2
      first
        | go_end0
        | refine bodyPost_ret (results_none rfl _ _ _) rfl ?_
        | refine bodyPost_end (results_none rfl _ _ _) rfl ?_
      exact ⟨rfl, _, rfl⟩
set_option maxRecDepth 20000 in
set_option maxHeartbeats 4000000 in
theorem crend_yes {R g o : Nat} {L : List (List UInt8)} {lo : Option Addr} {lc : Nat} {p : Nat} (w : World) (q : Ck w R (.slice lo L.length lc) p) (hL : HS w (.slice lo L.length lc) L) (hPl : Plain L) (hLl : L.length ≤ 2199023255552) (hgR : R ≠ g)
    (T t : List UInt8) (HTt : Hid (T = t ++ [10])) (htl : T.length ≤ 1099511627776) (ct : w.cell? ⟨g, o + 1, none⟩ = some (.string ⟨T.toArray⟩)) (cf : w.frozen? ⟨g, o + 1, none⟩ = false) (HB : Hid ((T != [10] && pkM (L.drop p)) = true)) :
    Calls Tryz.prog 208 #[.pointer (some ⟨R, 0, none⟩), .pointer (some ⟨g, o, none⟩)] w fun x w' => x = .returned (.tuple #[]) ∧ ∃ n, w' = ((w.drewN n).setCell ⟨g, o + 1, none⟩ (.string ⟨t.toArray⟩)).setCell ⟨R, 1, none⟩ (.int .i64 ((p : Int) + 1)) := by
  obtain ⟨c0, c1⟩ := q.cells
  have hb := HB.out
  rw [Bool.and_eq_true] at hb
  have hlt : p < L.length := (by
    by_cases h : p < L.length
    · exact h
    · have e : L.drop p = [] := List.drop_eq_nil_of_le (by omega)
      rw [e] at hb
      cases hb.2)
  have e1 : (T == [10]) = false := (by
    have := bne_iff_ne.1 hb.1
    exact beq_eq_false_iff_ne.2 this)
  have hm : L[p] = markT := (by
    have h := hb.2
    rw [pkM_at hPl hlt, beq_iff_eq] at h
    exact h)
  obtain ⟨bk, off, rfl, hbk, hcl⟩ := HS.at hL (by omega)
  have d4 := hcl p hlt
  rw [hm] at d4
  have e0 : ((p : Int) == (L.length : Int)) = false := beq_eq_false_iff_ne.2 (by omega)
  have f1 := q.frozen 1
  have HTS : Hid (Lib.trimSuffix T [10] = t) := (by
    show _ = _
    rw [HTt.out]
    unfold Lib.trimSuffix
    rw [suf_feed, if_pos (fd_snoc t)]
    simp)
  unfold markT at d4
  clear HB hL q hcl hm hPl hb
  have i1 : (0 : Int) ≤ (p : Int) := by omega
  have i2 : (p : Int) < (L.length : Int) := by omega
  have i3 : (p : Int).toNat = p := by omega
  go_enter Tryz.func208, Tryz.ntmps208
  go_wp2_with fail
  go_quiet (fail)
  go_wp2_with fail
  have c1' : (w.drewN nq).cell? ⟨R, 1, none⟩ = _ := c1
  have ct' : (w.drewN nq).cell? ⟨g, o + 1, none⟩ = _ := ct
  have cf' : (w.drewN nq).frozen? ⟨g, o + 1, none⟩ = false := cf
  have f1' : (w.drewN nq).frozen? ⟨R, 1, none⟩ = false := f1
  have HM : Hid (∃ k, w.drewN nq = w.drewN k) := ⟨_, rfl⟩
  clear c0 c1 d4 ct cf f1
  generalize w.drewN nq = W1 at c1' ct' cf' f1' HM ⊢
  refine (Tryz.strings_TrimSuffix ⟨T.toArray⟩ ⟨#[10]⟩ W1 (by show T.length ≤ _; omega)).mono ?_
  rintro e w2 ⟨rfl, rfl⟩
  have e2 : Lib.trimSuffix (⟨T.toArray⟩ : ByteArray).data.toList (⟨#[10]⟩ : ByteArray).data.toList = t := HTS.out
  rw [e2]
  clear e2
  have c1'' : (w2.setCell ⟨g, o + 1, none⟩ (.string ⟨t.toArray⟩)).cell? ⟨R, 1, none⟩ = some (.int .i64 (p : Int)) := (by
    have h := (grown_set w2 g (o + 1) (.string ⟨t.toArray⟩)).cell c1' (fun e => hgR (Option.some.inj e))
    exact h)
  have f1'' : (w2.setCell ⟨g, o + 1, none⟩ (.string ⟨t.toArray⟩)).frozen? ⟨R, 1, none⟩ = false := (by
    unfold World.frozen? at f1' ⊢
    dsimp only at f1' ⊢
    rw [Below.heap_setCell _ _ _ R hgR]
    exact f1')
  go_wp2
  first
    | go_end0
    | refine bodyPost_ret (results_none rfl _ _ _) rfl ?_
    | refine bodyPost_end (results_none rfl _ _ _) rfl ?_
  obtain ⟨k, hk⟩ := HM.out
  exact ⟨rfl, k, by rw [← hk]⟩
/-- the next line behind what must stand ahead -/
def barP (hd : List UInt8) (p : Nat) (ls : List (List UInt8)) : Except (Nat × Int) (List UInt8 × List (List UInt8)) :=
  match nxt p ls with
  | .error e => .error e
  | .ok (s, r) => if hd.isPrefixOf s = true then .ok (s.drop hd.length, r) else .error (p + 1, 3)
/-- what a bare line leaves behind -/
def BrQ (R : Nat) (X : Except (Nat × Int) (List UInt8 × List (List UInt8))) (w : World) (x : Ending) (w' : World) : Prop :=
  match X with
  | .error (a, e) => Thr (a : Int) e x w' ∧ w.grownBy w' (some R)
  | .ok (s, _) => x = .returned (.string ⟨s.toArray⟩) ∧ ∃ n, w' = w.drewN n
theorem trim_snoc (s : List UInt8) : Lib.trimSuffix (s ++ [10]) [10] = s := by
  unfold Lib.trimSuffix
  rw [suf_feed, if_pos (fd_snoc s)]
  simp
set_option maxHeartbeats 4000000 in
theorem cbare_f {R : Nat} {L : List (List UInt8)} {lo : Option Addr} {lc : Nat} {p : Nat} (hd : List UInt8) (w : World) (q : Ck w R (.slice lo L.length lc) p) (hL : HS w (.slice lo L.length lc) L) (hp : p ≤ L.length) (hLl : L.length ≤ 2199023255552) (hs : ∀ s ∈ L, s.length ≤ 1099511627776)
    (X : Except (Nat × Int) (List UInt8 × List (List UInt8))) (HX : Hid (barP hd p (L.drop p) = X)) :
    Calls Tryz.prog 147 #[.pointer (some ⟨R, 0, none⟩), .string ⟨hd.toArray⟩] w fun x w' => BrQ R X w x w' := by
  obtain ⟨Y, hY⟩ : ∃ Y, nxt p (L.drop p) = Y := ⟨_, rfl⟩
  have hl := crline_f w q hL hp hLl hs Y hY
  have hX := HX.out
  unfold barP at hX
  rw [hY] at hX
  clear HX
  cases Y with
  | error z =>
    obtain ⟨a, e⟩ := z
    dsimp only at hX
    subst hX
    go_enter Tryz.func147, Tryz.ntmps147
    go_wp2_with fail
    refine hl.mono ?_
    rintro x w1 ⟨⟨g, rfl, hg⟩, hgr⟩
    go_wp2
    exact ⟨rfl, ⟨_, rfl, hg⟩, hgr⟩
  | ok z =>
    obtain ⟨s, r⟩ := z
    obtain ⟨hr, hpl, _, hLp⟩ := nxt_rest hY
    have hsl := hs L[p] (List.getElem_mem hpl)
    rw [hLp, List.length_append] at hsl
    dsimp only at hX
    obtain ⟨T, hT⟩ : ∃ T, s ++ [10] = T := ⟨_, rfl⟩
    have hl2 : Calls Tryz.prog 203 #[.pointer (some ⟨R, 0, none⟩)] w fun x w' => x = .returned (.string ⟨T.toArray⟩) ∧ ∃ n, w' = w.drewN n := (by
      refine hl.mono ?_
      rintro x w' ⟨h1, h2⟩
      rw [hT] at h1
      exact ⟨h1, h2⟩)
    have hTl : T.length ≤ 2199023255552 := (by rw [← hT, List.length_append]; simp at hsl ⊢; omega)
    have htr : ∀ u, Calls Tryz.prog 137 #[.string ⟨T.toArray⟩, .string ⟨#[10]⟩] u fun e w' => e = .returned (.string ⟨s.toArray⟩) ∧ w' = u := (by
      intro u
      refine (Tryz.strings_TrimSuffix ⟨T.toArray⟩ ⟨#[10]⟩ u (by show T.length ≤ _; omega)).mono ?_
      rintro e w' ⟨rfl, rfl⟩
      have e2 : Lib.trimSuffix (⟨T.toArray⟩ : ByteArray).data.toList (⟨#[10]⟩ : ByteArray).data.toList = s := (by
        show Lib.trimSuffix T [10] = s
        rw [← hT]
        exact trim_snoc s)
      rw [e2]
      exact ⟨rfl, rfl⟩)
    have hcp := fun u => Tryz.strings_CutPrefix ⟨s.toArray⟩ ⟨hd.toArray⟩ u
    have hpf : Lib.hasPrefix (⟨s.toArray⟩ : ByteArray).data.toList (⟨hd.toArray⟩ : ByteArray).data.toList = hd.isPrefixOf s := rfl
    rw [hpf] at hcp
    by_cases hpre : hd.isPrefixOf s = true
    · rw [if_pos hpre] at hX
      subst hX
      have htp : Lib.trimPrefix (⟨s.toArray⟩ : ByteArray).data.toList (⟨hd.toArray⟩ : ByteArray).data.toList = s.drop hd.length := (by
        show Lib.trimPrefix s hd = _
        unfold Lib.trimPrefix Lib.hasPrefix
        rw [if_pos hpre])
      rw [htp, hpre] at hcp
      obtain ⟨D, hD⟩ : ∃ D, s.drop hd.length = D := ⟨_, rfl⟩
      rw [hD] at hcp
      have HD : Hid (s.drop hd.length = D) := hD
      clear hpf htp hpre hl hY hLp hsl hr hT hD
      go_enter Tryz.func147, Tryz.ntmps147
      go_wp2_with fail
      refine hl2.mono ?_
      rintro x w1 ⟨rfl, nn, rfl⟩
      go_wp2_with fail
      refine (htr _).mono ?_
      rintro x w2 ⟨rfl, rfl⟩
      go_wp2_with fail
      refine (hcp _).mono ?_
      rintro x w3 ⟨rfl, rfl⟩
      go_wp2
      go_ret
      exact ⟨by rw [HD.out]; rfl, nn, rfl⟩
    · rw [if_neg hpre] at hX
      subst hX
      rw [Bool.eq_false_iff.2 hpre] at hcp
      generalize Lib.trimPrefix (⟨s.toArray⟩ : ByteArray).data.toList (⟨hd.toArray⟩ : ByteArray).data.toList = U2 at hcp
      have q2 := fun nn => q.dN nn
      clear hpf hpre hl hY hLp hsl hr hT
      go_enter Tryz.func147, Tryz.ntmps147
      go_wp2_with fail
      refine hl2.mono ?_
      rintro x w1 ⟨rfl, nn, rfl⟩
      go_wp2_with fail
      refine (htr _).mono ?_
      rintro x w2 ⟨rfl, rfl⟩
      go_wp2_with fail
      refine (hcp _).mono ?_
      rintro x w3 ⟨rfl, rfl⟩
      go_wp2_with fail
      refine (crefuse_f 3 _ (q2 nn) (by omega)).mono ?_
      rintro e w3 ⟨⟨g, rfl, hg⟩, hgr⟩
      go_wp2
      exact ⟨rfl, ⟨_, rfl, by simpa using hg⟩, grown_two (grown_drewN (low_grown (Below.refl w.heap.size w) (some R)) nn) hgr⟩
end Go.Proofs.YtgiojkhmkeocfaaGreatDoor
