/-
  Texts that belong together, joined: NoWs, NoTx, NoRf, NoCg, NoM2, NoM3, NoPr, NoLen, NcW, NcL, NpE, NoM4, NpM, NpF, NpG, NpH.
-/
import Derived.Test.YtlgipdmjannidaaGreatDoorPartA6
import Derived.Shelf.Strings.BuilderK
import Derived.Test.YtlgipdmjannidaaGreatDoorProg
import Derived.Lib.ItoaNum
import Derived.Laws.IdiomStrings
import Derived.Test.YtlgipdmjannidaaGreatDoorPartA4
import Derived.Deep.RegionHeld3
import Derived.Deep.CutBlock
import Derived.Deep.DeepCutAuto
import Derived.Test.YtlgipdmjannidaaGreatDoorPartA5
import Derived.Lib.AppendIntMem
import Derived.Lib.FrozenHead2
import Derived.WalkLawsBesides

/- The library's contracts on a strings.Builder's WriteString and on strings.HasSuffix, TrimSuffix and CutPrefix at this program: the program bears the bodies that they speak of. -/
set_option maxRecDepth 20000
namespace Go.Proofs
open Go.Shelf Go.RowKit
def Tryz.lays166_ren : Go.Shelf.Ren := ⟨fun | 166 => 73 | 240 => 110 | 276 => 158 | n => n, fun | 0 => 0 | 3 => 3 | 4 => 4 | 5 => 5 | 9 => 9 | 20 => 20 | 37 => 96 | 70 => 95 | 72 => 98 | 75 => 24 | 80 => 104 | 164 => 117 | n => n, fun | n => n⟩
theorem Tryz.lays166 : Go.Proofs.Lays.n166 Tryz.prog Tryz.lays166_ren := {
  mixed := by kernel_rfl
  f166 := Tryz.func73.trans (congrArg some (by kernel_rfl))
  f240 := Tryz.func110.trans (congrArg some (by kernel_rfl))
  f276 := Tryz.func158.trans (congrArg some (by kernel_rfl))
  t0 := Tryz.underlying0
  a0 := Tryz.isAgg0
  z0 := Tryz.sizeOf0
  v0 := Tryz.zeroValue0
  t3 := Tryz.underlying3
  a3 := Tryz.isAgg3
  z3 := Tryz.sizeOf3
  v3 := Tryz.zeroValue3
  t4 := Tryz.underlying4
  a4 := Tryz.isAgg4
  z4 := Tryz.sizeOf4
  v4 := Tryz.zeroValue4
  t9 := Tryz.underlying9
  a9 := Tryz.isAgg9
  z9 := Tryz.sizeOf9
  v9 := Tryz.zeroValue9
  t20 := Tryz.underlying20
  a20 := Tryz.isAgg20
  z20 := Tryz.sizeOf20
  v20 := Tryz.zeroValue20
  t37 := Tryz.underlying96
  a37 := Tryz.isAgg96
  z37 := Tryz.sizeOf96
  v37 := Tryz.zeroValue96
  t70 := Tryz.underlying95
  a70 := Tryz.isAgg95
  z70 := Tryz.sizeOf95
  v70 := Tryz.zeroValue95
  t72 := Tryz.underlying98
  a72 := Tryz.isAgg98
  z72 := Tryz.sizeOf98
  v72 := Tryz.zeroValue98
  t75 := Tryz.underlying24
  a75 := Tryz.isAgg24
  z75 := Tryz.sizeOf24
  v75 := Tryz.zeroValue24
  t164 := Tryz.underlying117
  a164 := Tryz.isAgg117
  z164 := Tryz.sizeOf117
  v164 := Tryz.zeroValue117 }
theorem Tryz.Builder_Extra_166 : Builder.Extra Tryz.prog Tryz.lays166_ren := {
  sizeBuilder := by kernel_rfl
  liesBuilder := by kernel_rfl
  t5 := Tryz.underlying5
  a5 := Tryz.isAgg5
  z5 := Tryz.sizeOf5
  v5 := Tryz.zeroValue5
  infoByte := by kernel_rfl
  cellsByte := by kernel_rfl
  sizeByte := by kernel_rfl
  neB5 := by decide }
theorem Tryz.WriteString_h (B b : Nat) (bs : List Value) (s : ByteArray) (w : World) (h : Lib.IsBuilderF 98 5 B b bs w) (hlen : bs.length + s.size ≤ 140737488355328) (hBw : B ≤ w.heap.size) :
    Calls Tryz.prog 73 #[.pointer (some ⟨b, 0, none⟩), .string s] w fun e w' => e = .returned (.tuple #[.int .i64 s.size, .nilIface]) ∧ (Lib.BuilderAtF 98 5 B b (.pointer (some ⟨b, 0, none⟩)) (bs ++ Lib.strCells s) w' ∧ Below B w w' ∧ Lib.OthersKept 5 (some b) w w') :=
  Any.Builder_WriteString_k Tryz.lays166 Tryz.Builder_Extra_166 B b bs s w h hlen hBw
end Go.Proofs

/- The reference's text of a number, walked: the decimal digits, with a sign ahead of a negative one. -/
set_option maxRecDepth 20000
namespace Go.Proofs.YtlgipdmjannidaaGreatDoor
open Go.RowKit

theorem tx_conv {P : Program} (src dst e : TypeId) (hs : P.underlying src = some (.slice e)) (he : P.underlying e = some (.int .u8)) (hd : P.underlying dst = some .string) (w : World) (x : Int) (h0 : 0 ≤ x) (h1 : x < 256) :
    (convert src dst (.slice (some ⟨w.heap.size, 0, none⟩) 1 1)).run P (w.alloc (.cells #[.int .u8 x] e)) = .ok (.string ⟨#[UInt8.ofNat x.toNat]⟩) (w.alloc (.cells #[.int .u8 x] e)) := by
  have hx : ((UInt8.ofNat x.toNat).toNat : Int) = x := by simp only [UInt8.toNat_ofNat']; omega
  refine run_convert_bytes_back (w.alloc (.cells #[.int .u8 x] e)) src dst e ⟨w.heap.size, 0, none⟩ 1 [UInt8.ofNat x.toNat] hs he hd ?_
  intro j hj
  have ej : j = 0 := by simpa using hj
  subst ej
  have := heap_alloc_new w (.cells #[.int .u8 x] e)
  show (w.alloc (.cells #[.int .u8 x] e)).cell? ⟨w.heap.size, 0 + 0, none⟩ = some (.int .u8 ((UInt8.ofNat x.toNat).toNat : Int))
  rw [hx]
  unfold World.cell?
  dsimp only
  rw [this]
  rfl
/-- the last digit of a number -/
def txc (m : Nat) : UInt8 := UInt8.ofNat (48 + m % 10)
/-- the digits ahead of what is written -/
def txp (m : Nat) : List UInt8 := if m = 0 then [] else Lib.decDigits m
theorem txp_step (m : Nat) (h : 0 < m) : txp m = txp (m / 10) ++ [txc m] := by
  unfold txp
  rw [if_neg (by omega), Lib.decDigits]
  by_cases h10 : m < 10
  · rw [dif_pos h10, if_pos (by omega)]
    have : m % 10 = m := by omega
    simp [txc, this]
  · rw [dif_neg h10, if_neg (by omega)]; rfl
theorem dec_txp (m : Nat) : Lib.decDigits m = txp (m / 10) ++ [txc m] := by
  by_cases h : m = 0
  · subst h; rw [Lib.decDigits]; simp [txp, txc]
  · have := txp_step m (by omega)
    rw [← this]; simp [txp, h]
theorem dec_short : ∀ (n m : Nat), m < 10 ^ (n + 1) → (Lib.decDigits m).length ≤ n + 1
  | 0, m, h => by rw [Lib.decDigits, dif_pos (by simpa using h)]; simp
  | n + 1, m, h => by
    rw [Lib.decDigits]
    split
    · simp
    · have h2 : m / 10 < 10 ^ (n + 1) := by
        rw [Nat.div_lt_iff_lt_mul (by omega), ← Nat.pow_succ]; exact h
      have := dec_short n (m / 10) h2
      simp; omega
theorem itoa_short (n : Int) (h0 : -9223372036854775808 ≤ n) (h1 : n ≤ 9223372036854775807) : (Lib.itoa n).length ≤ 21 := by
  have hal : (Lib.decDigits n.natAbs).length ≤ 20 := dec_short 19 n.natAbs (by omega)
  unfold Lib.itoa
  split
  · simp only [List.length_cons]
    omega
  · have e : n.toNat = n.natAbs := by omega
    rw [e]
    omega
theorem tx_wrap (n : Int) (h : n < 0) (h0 : -9223372036854775808 ≤ n) : IntKind.u64.wrap (-IntKind.u64.wrap n) = (n.natAbs : Int) := by
  simp [IntKind.wrap, IntKind.bits, IntKind.signed]
  omega
end Go.Proofs.YtlgipdmjannidaaGreatDoor

/- The reference's small functions of the normal form's writing, walked: a range of lines, a line behind a sign. -/
set_option maxRecDepth 20000
namespace Go.Proofs.YtlgipdmjannidaaGreatDoor
open Go.RowKit
attribute [local go_sem] ByteArray.extract_mk no_at

end Go.Proofs.YtlgipdmjannidaaGreatDoor

/- The reference's change of the normal form, walked. -/
set_option maxRecDepth 20000
namespace Go.Proofs.YtlgipdmjannidaaGreatDoor
open Go.RowKit

/-- two texts can be joined -/
def Fits (x y : List UInt8) : Prop := x.length + y.length ≤ 4611686018427387904
theorem add_fits {x y : List UInt8} (h : Fits x y) (P : Program) (u : World) : (Op.stringOp .add ⟨x.toArray⟩ ⟨y.toArray⟩).run P u = .ok (.string ⟨(x ++ y).toArray⟩) u := by
  unfold Fits at h
  have e : ¬ (((⟨x.toArray⟩ : ByteArray).size + (⟨y.toArray⟩ : ByteArray).size : Nat) : Int) > IntKind.i64.max := by
    have h1 : (⟨x.toArray⟩ : ByteArray).size = x.length := rfl
    have h2 : (⟨y.toArray⟩ : ByteArray).size = y.length := rfl
    have h3 : IntKind.i64.max = 9223372036854775807 := rfl
    rw [h1, h2, h3]
    omega
  unfold Op.stringOp
  dsimp only
  rw [if_neg e, ba_join]
  rfl
/-- a change in a box, and all below it as it was -/
structure Cs (c : Ch) (b : Nat) (W w : World) : Prop where
  c0 : w.cell? ⟨b, 0, none⟩ = some (.int .i64 c.A)
  c1 : w.cell? ⟨b, 1, none⟩ = some (.int .i64 c.AN)
  c2 : w.cell? ⟨b, 2, none⟩ = some (.int .i64 c.B)
  c3 : w.cell? ⟨b, 3, none⟩ = some (.int .i64 c.BN)
  lt : b < w.heap.size
  low : Below W.heap.size W w
theorem Cs.keep {c : Ch} {b : Nat} {W w w' : World} (h : Cs c b W w) (hb : Below w.heap.size w w') : Cs c b W w' := by
  have hk : ∀ o, w'.cell? ⟨b, o, none⟩ = w.cell? ⟨b, o, none⟩ := fun o => by
    unfold World.cell?
    dsimp only
    rw [hb.block b h.lt]
  exact ⟨(hk 0).trans h.c0, (hk 1).trans h.c1, (hk 2).trans h.c2, (hk 3).trans h.c3, Nat.lt_of_lt_of_le h.lt hb.size, h.low.trans (hb.mono h.low.size)⟩
theorem cs_drew (c : Ch) (b : Nat) (W w : World) : Cs c b W w.drew ↔ Cs c b W w := ⟨fun h => ⟨h.c0, h.c1, h.c2, h.c3, h.lt, (h.low.trans ⟨rfl, rfl, rfl, Nat.le_refl _, fun _ _ => rfl⟩ : Below W.heap.size W w)⟩, fun h => ⟨h.c0, h.c1, h.c2, h.c3, h.lt, h.low.drew⟩⟩
attribute [local simp] cs_drew
theorem Cs.fresh (c : Ch) (w : World) : Cs c w.heap.size w (w.alloc (.cells #[.int .i64 c.A, .int .i64 c.AN, .int .i64 c.B, .int .i64 c.BN] 140)) := by
  have h := heap_alloc_new w (.cells #[.int .i64 c.A, .int .i64 c.AN, .int .i64 c.B, .int .i64 c.BN] 140)
  have hk : ∀ o, (w.alloc (.cells #[.int .i64 c.A, .int .i64 c.AN, .int .i64 c.B, .int .i64 c.BN] 140)).cell? ⟨w.heap.size, o, none⟩ = (#[Value.int .i64 c.A, .int .i64 c.AN, .int .i64 c.B, .int .i64 c.BN])[o]? := fun o => by
    unfold World.cell?
    dsimp only
    rw [h]
    rfl
  exact ⟨hk 0, hk 1, hk 2, hk 3, by rw [World.alloc]; simp, (Below.refl _ w).alloc (Nat.le_refl _) _⟩
/-- a call that leaves all below as it was leaves that change, too -/
theorem cs_stay {P : Program} {f : FuncId} {args : Array Value} {v : Value} {w : World} (h : Calls P f args w fun e w' => e = .returned v ∧ Below w.heap.size w w') {c : Ch} {A AN B BN : Int} (hc : Hid (⟨A, AN, B, BN⟩ = c)) (b : Nat) (W : World) (hS : Cs c b W w) :
    Calls P f args w fun e w' => e = .returned v ∧ w'.cell? ⟨b, 0, none⟩ = some (.int .i64 A) ∧ w'.cell? ⟨b, 1, none⟩ = some (.int .i64 AN) ∧ w'.cell? ⟨b, 2, none⟩ = some (.int .i64 B) ∧ w'.cell? ⟨b, 3, none⟩ = some (.int .i64 BN) ∧ Cs c b W w' := by
  have hc2 := hc.out
  subst hc2
  refine h.mono ?_
  rintro e w' ⟨rfl, hb⟩
  have hS' := hS.keep hb
  exact ⟨rfl, hS'.c0, hS'.c1, hS'.c2, hS'.c3, hS'⟩
theorem rng_short (p n : Int) (h0 : 0 ≤ p) (h1 : p ≤ 4611686018427387904) (h2 : 0 ≤ n) (h3 : n ≤ 4611686018427387900) : (rngT p n).length ≤ 43 := by
  have l1 := itoa_short (p + 1) (by omega) (by omega)
  have l2 := itoa_short (p + n) (by omega) (by omega)
  unfold rngT
  split
  · omega
  · simp only [List.length_append, List.length_cons]
    omega
theorem flatM_app {α : Type} (f : α → List (List UInt8)) (x y : List α) : ((x ++ y).flatMap f).flatten = (x.flatMap f).flatten ++ (y.flatMap f).flatten := by simp
/-- one line more -/
theorem cut_more {a : List (List UInt8)} {p n k : Nat} (hk : k < n) (hn : p + n ≤ a.length) : cut a (p : Int) ((k + 1 : Nat) : Int) = cut a p (k : Nat) ++ [a[p + k]'(by omega)] := by
  have h := @cut_cat a (p : Int) (k : Nat) 1 (by omega) (by omega) (by omega)
  have e : cut a ((p : Int) + (k : Nat)) 1 = [a[p + k]'(by omega)] := by
    unfold cut
    have e1 : ((p : Int) + (k : Nat)).toNat = p + k := by omega
    rw [e1, List.drop_eq_getElem_cons (by omega)]
    rfl
  rw [← e, h]
  rfl
theorem cut_pre {a : List (List UInt8)} {p n k : Nat} (hk : k ≤ n) (f : List UInt8 → List (List UInt8)) : ∃ z, ((cut a (p : Int) (n : Nat)).flatMap f).flatten = ((cut a (p : Int) (k : Nat)).flatMap f).flatten ++ z := by
  have h := @cut_cat a (p : Int) (k : Nat) ((n - k : Nat) : Int) (by omega) (by omega) (by omega)
  have e : ((k : Nat) : Int) + ((n - k : Nat) : Int) = (n : Nat) := by omega
  rw [e] at h
  rw [← h, flatM_app]
  exact ⟨_, rfl⟩
end Go.Proofs.YtlgipdmjannidaaGreatDoor

/- What is written in the normal form is read as the hunks without context; plain mathematics. -/
set_option maxRecDepth 20000
namespace Go.Proofs.YtlgipdmjannidaaGreatDoor
open Ln

/-- bytes of numbers and ranges -/
def numC (c : UInt8) : Bool := Pn.digB c || c == 44
theorem itoa_dig {n : Int} (h : 0 ≤ n) : ∀ c ∈ Lib.itoa n, Pn.digB c = true := by
  intro c hc
  obtain ⟨m, rfl⟩ : ∃ m : Nat, n = m := ⟨n.toNat, by omega⟩
  rw [itoa_nat] at hc
  exact (List.all_eq_true.1 (dec_all m)) c hc
theorem itoa_ne {n : Int} (h : 0 ≤ n) : Lib.itoa n ≠ [] := by
  obtain ⟨m, rfl⟩ : ∃ m : Nat, n = m := ⟨n.toNat, by omega⟩
  rw [itoa_nat]
  exact dec_ne m
theorem rng_num {p n : Int} (hp : 0 ≤ p) (hn : 1 ≤ n) : ∀ c ∈ rngT p n, numC c = true := by
  intro c hc
  unfold rngT at hc
  unfold numC
  split at hc
  · rw [itoa_dig (by omega) c hc]; rfl
  · rcases List.mem_append.1 hc with hc | hc
    · rw [itoa_dig (by omega) c hc]; rfl
    · rcases List.mem_cons.1 hc with rfl | hc
      · simp
      · rw [itoa_dig (by omega) c hc]; rfl
theorem dig_facts {c : UInt8} (h : Pn.digB c = true) : isC c = false ∧ isK c = false ∧ c ≠ 10 ∧ c ≠ 92 := by
  have h1 := Pn.digB_out h
  refine ⟨?_, ?_, ?_, ?_⟩
  · unfold isC
    simp only [Bool.or_eq_false_iff, beq_eq_false_iff_ne]
    refine ⟨⟨?_, ?_⟩, ?_⟩ <;> (rintro rfl; simp at h1)
  · unfold isK
    rw [beq_eq_false_iff_ne]
    rintro rfl
    simp at h1
  · rintro rfl
    simp at h1
  · rintro rfl
    simp at h1
theorem num_facts {c : UInt8} (h : numC c = true) : isC c = false ∧ c ≠ 10 ∧ c ≠ 92 := by
  unfold numC at h
  rcases Bool.or_eq_true_iff.1 h with h | h
  · have := dig_facts h
    exact ⟨this.1, this.2.2.1, this.2.2.2⟩
  · have : c = 44 := by simpa using h
    subst this
    decide
theorem spB_app {q : UInt8 → Bool} {x y : List UInt8} {d : UInt8} (hx : ∀ c ∈ x, q c = false) (hd : q d = true) : spB q (x ++ d :: y) = some (x, d, y) := by
  induction x with
  | nil => simp [spB, hd]
  | cons c x ih =>
    simp only [List.cons_append, spB]
    rw [if_neg (by rw [hx c (by simp)]; decide), ih fun z hz => hx z (by simp [hz])]
theorem spB_none {q : UInt8 → Bool} {x : List UInt8} (hx : ∀ c ∈ x, q c = false) : spB q x = none := by
  induction x with
  | nil => rfl
  | cons c x ih =>
    simp only [spB]
    rw [if_neg (by rw [hx c (by simp)]; decide), ih fun z hz => hx z (by simp [hz])]
theorem lnsP_rng {p n : Int} (hp : 0 ≤ p) (hn : 1 ≤ n) (hb : p + n ≤ 2147483647) : lnsP (rngT p n) = some (p + 1, n) := by
  unfold rngT
  by_cases h1 : n = 1
  · rw [if_pos h1]
    unfold lnsP
    rw [spB_none (fun c hc => (dig_facts (itoa_dig (by omega) c hc)).2.1)]
    obtain ⟨e1, e2⟩ := parse_itoa_ok (n := p + 1) (by omega) (by omega)
    have hc : Pn.parseE (Lib.itoa (p + 1)) = 0 ∧ 1 ≤ Pn.parseV (Lib.itoa (p + 1)) := ⟨e2, by rw [e1]; omega⟩
    simp only
    rw [if_pos hc, e1, h1]
  · rw [if_neg h1]
    unfold lnsP
    rw [spB_app (fun c hc => (dig_facts (itoa_dig (by omega) c hc)).2.1) (by decide)]
    obtain ⟨e1, e2⟩ := parse_itoa_ok (n := p + 1) (by omega) (by omega)
    obtain ⟨e3, e4⟩ := parse_itoa_ok (n := p + n) (by omega) (by omega)
    have hc : Pn.parseE (Lib.itoa (p + 1)) = 0 ∧ Pn.parseE (Lib.itoa (p + n)) = 0 ∧ 1 ≤ Pn.parseV (Lib.itoa (p + 1)) ∧ Pn.parseV (Lib.itoa (p + 1)) < Pn.parseV (Lib.itoa (p + n)) := ⟨e2, e4, by rw [e1]; omega, by rw [e1, e3]; omega⟩
    simp only
    rw [if_pos hc, e1, e3]
    congr 2
    omega
theorem oneP_itoa {n : Int} (h : 0 ≤ n) (hb : n ≤ 2147483647) : oneP (Lib.itoa n) = some (n, 0) := by
  unfold oneP
  obtain ⟨e1, e2⟩ := parse_itoa_ok h hb
  rw [if_pos e2, e1]
/-- the numbers that a hunk without context says -/
def noA (p n : Int) : Int := if 0 < n then p + 1 else p
theorem cmd_back {c : Ch} (hn : numB c = true) (hA : c.A + c.AN ≤ 2147483647) (hB : c.B + c.BN ≤ 2147483647) : cmdP (cmdT c) = some (noA c.A c.AN, c.AN, noA c.B c.BN, c.BN) := by
  have h := (numB_iff c).1 hn
  unfold cmdT cmdP noA
  by_cases h1 : c.AN = 0
  · have hb : 0 < c.BN := by omega
    rw [if_pos h1, spB_app (fun x hx => (dig_facts (itoa_dig (by omega) x hx)).1) (by decide)]
    simp only [if_true]
    rw [if_neg (by decide), oneP_itoa (by omega) (by omega), lnsP_rng (by omega) (by omega) hB, h1, if_pos hb]
    rfl
  · have ha : 0 < c.AN := by omega
    rw [if_neg h1, if_pos ha]
    by_cases h2 : c.BN = 0
    · rw [if_pos h2, spB_app (fun x hx => (num_facts (rng_num (by omega) (by omega) x hx)).1) (by decide)]
      simp only [if_true]
      rw [if_neg (by decide), lnsP_rng (by omega) (by omega) hA, oneP_itoa (by omega) (by omega), h2]
      rfl
    · have hb : 0 < c.BN := by omega
      rw [if_neg h2, spB_app (fun x hx => (num_facts (rng_num (by omega) (by omega) x hx)).1) (by decide)]
      simp only
      rw [if_neg (by decide), if_neg (by decide), lnsP_rng (by omega) (by omega) hA, lnsP_rng (by omega) (by omega) hB, if_pos hb]
theorem cmd_bytes {c : Ch} (hn : numB c = true) : (∀ x ∈ cmdT c, x ≠ 10) ∧ ∃ y t, cmdT c = y :: t ∧ y ≠ 92 := by
  have h := (numB_iff c).1 hn
  have hd : ∀ (n : Int) (t : List UInt8), 0 ≤ n → ∃ y u, Lib.itoa n ++ t = y :: u ∧ y ≠ 92 := by
    intro n t h0
    cases hq : Lib.itoa n with
    | nil => exact absurd hq (itoa_ne h0)
    | cons y u =>
      refine ⟨y, u ++ t, rfl, ?_⟩
      exact (dig_facts (itoa_dig h0 y (by rw [hq]; simp))).2.2.2
  have hr : ∀ (p n : Int) (t : List UInt8), 0 ≤ p → ∃ y u, rngT p n ++ t = y :: u ∧ y ≠ 92 := by
    intro p n t h0
    unfold rngT
    split
    · exact hd _ _ (by omega)
    · rw [List.append_assoc]
      exact hd _ _ (by omega)
  unfold cmdT
  split
  · rename_i h1
    refine ⟨?_, hd _ _ (by omega)⟩
    intro x hx
    rcases List.mem_append.1 hx with hx | hx
    · exact (dig_facts (itoa_dig (by omega) x hx)).2.2.1
    · rcases List.mem_cons.1 hx with rfl | hx
      · decide
      · exact (num_facts (rng_num (by omega) (by omega) x hx)).2.1
  · split
    · refine ⟨?_, hr _ _ _ (by omega)⟩
      intro x hx
      rcases List.mem_append.1 hx with hx | hx
      · exact (num_facts (rng_num (by omega) (by omega) x hx)).2.1
      · rcases List.mem_cons.1 hx with rfl | hx
        · decide
        · exact (dig_facts (itoa_dig (by omega) x hx)).2.2.1
    · refine ⟨?_, hr _ _ _ (by omega)⟩
      intro x hx
      rcases List.mem_append.1 hx with hx | hx
      · exact (num_facts (rng_num (by omega) (by omega) x hx)).2.1
      · rcases List.mem_cons.1 hx with rfl | hx
        · decide
        · exact (num_facts (rng_num (by omega) (by omega) x hx)).2.1
/-- lines that all are lines, and have their line feed but for the last one -/
def Rows : List (List UInt8) → Prop
  | [] => True
  | x :: r => linB x = true ∧ (r ≠ [] → fdB x = true) ∧ Rows r
theorem lin_no {x : List UInt8} (h : linB x = true) : x ≠ [] ∧ ∀ c ∈ x.dropLast, c ≠ 10 := by
  unfold linB at h
  simp only [Bool.and_eq_true] at h
  refine ⟨?_, fun c hc => ?_⟩
  · rintro rfl
    simp at h
  · have := (List.all_eq_true.1 h.2) c hc
    simpa using this
theorem fd_form {x : List UInt8} (h : fdB x = true) : x = x.dropLast ++ [10] := by
  unfold fdB at h
  have h1 : x.getLast? = some 10 := by simpa using h
  obtain ⟨q, rfl⟩ := List.getLast?_eq_some_iff.1 h1
  simp
theorem fd_app {ah x : List UInt8} (h : fdB x = true) : fdB (ah ++ x) = true ∧ (ah ++ x).dropLast = ah ++ x.dropLast := by
  have e := fd_form h
  rw [e, ← List.append_assoc]
  refine ⟨fd_snoc _, ?_⟩
  simp
theorem rd_back (ah : List UInt8) (S : Int) (xs : List (List UInt8)) : ∀ (p : Nat) (rest : List (List UInt8)), Rows xs → pkM rest = false → ∃ p', rdN ah S xs.length p (xs.flatMap (lnL ah) ++ rest) = .ok (mks S xs, p', rest) := by
  induction xs with
  | nil => intro p rest _ _; exact ⟨p, rfl⟩
  | cons x xs ih =>
    intro p rest hR hp
    obtain ⟨h1, h2, h3⟩ := hR
    simp only [List.length_cons, rdN, List.flatMap_cons, List.append_assoc]
    cases hf : fdB x with
    | true =>
      have hl : lnL ah x = [ah ++ x] := by unfold lnL; rw [if_pos hf]
      obtain ⟨e1, e2⟩ := fd_app (ah := ah) hf
      have hm : mkd ah (xs.length == 0) p ([ah ++ x] ++ (xs.flatMap (lnL ah) ++ rest)) = .ok (x, p + 1, xs.flatMap (lnL ah) ++ rest) := by
        unfold mkd
        simp only [List.singleton_append, nxt, e1, if_true, e2]
        rw [if_pos (by simp), if_neg ?_]
        · simp only [List.drop_left]
          rw [← fd_form hf]
        · cases xs with
          | nil => simp [hp]
          | cons y ys => simp
      rw [hl, hm]
      obtain ⟨p', hq⟩ := ih (p + 1) rest h3 hp
      simp only [hq]
      exact ⟨p', rfl⟩
    | false =>
      have hx : xs = [] := by
        cases xs with
        | nil => rfl
        | cons y ys => have := h2 (by simp); rw [hf] at this; cases this
      subst hx
      have hl : lnL ah x = [ah ++ x ++ [10], markT] := by unfold lnL; rw [if_neg (by rw [hf]; decide)]
      have hm : mkd ah (([] : List (List UInt8)).length == 0) p ([ah ++ x ++ [10], markT] ++ (([] : List (List UInt8)).flatMap (lnL ah) ++ rest)) = .ok (x, p + 2, rest) := by
        unfold mkd
        simp only [List.cons_append, List.nil_append, nxt, fd_snoc, if_true, List.dropLast_concat]
        rw [if_pos (by simp), if_pos (by simp [pkM]), if_neg (by simp only [List.drop_left]; exact (lin_no h1).1)]
        simp
      rw [hl, hm]
      exact ⟨p + 2, rfl⟩
/-- behind old lines there is no mark -/
theorem pk_new {ah : List UInt8} {xs rest : List (List UInt8)} (ha : ah.head? = some 62) (hp : pkM rest = false) : pkM (xs.flatMap (lnL ah) ++ rest) = false := by
  cases xs with
  | nil => exact hp
  | cons x xs =>
    cases ah with
    | nil => cases ha
    | cons y ah =>
      simp only [List.head?_cons, Option.some.injEq] at ha
      subst ha
      rw [List.flatMap_cons, lnL]
      split <;> rfl
/-- a change is read as its hunk -/
theorem hk_back {a b : List (List UInt8)} {c : Ch} {k p : Nat} {rest : List (List UInt8)} (hn : numB c = true) (hA : c.A + c.AN ≤ 2147483647) (hB : c.B + c.BN ≤ 2147483647) (hAl : (cut a c.A c.AN).length = c.AN.toNat) (hBl : (cut b c.B c.BN).length = c.BN.toNat) (hRa : Rows (cut a c.A c.AN)) (hRb : Rows (cut b c.B c.BN)) (hk : k < 4096) (hp : pkM rest = false) : ∃ p', hkP k p (chgL a b c ++ rest) = .ok (⟨noA c.A c.AN, c.AN, noA c.B c.BN, c.BN, mks 45 (cut a c.A c.AN) ++ mks 43 (cut b c.B c.BN)⟩, p', rest) := by
  have hb := pk_new (ah := [62, 32]) (xs := cut b c.B c.BN) (rest := rest) (by decide) hp
  have hs : pkM (sepL c ++ ((cut b c.B c.BN).flatMap (lnL [62, 32]) ++ rest)) = false := by
    unfold sepL
    split
    · rfl
    · exact hb
  obtain ⟨p1, h1⟩ := rd_back [60, 32] 45 (cut a c.A c.AN) (p + 1) (sepL c ++ ((cut b c.B c.BN).flatMap (lnL [62, 32]) ++ rest)) hRa hs
  have h2 : ∃ p2, (if 0 < c.AN ∧ 0 < c.BN then sepP p1 (sepL c ++ ((cut b c.B c.BN).flatMap (lnL [62, 32]) ++ rest)) else .ok (p1, sepL c ++ ((cut b c.B c.BN).flatMap (lnL [62, 32]) ++ rest))) = .ok (p2, (cut b c.B c.BN).flatMap (lnL [62, 32]) ++ rest) := by
    unfold sepL
    by_cases hq : 0 < c.AN ∧ 0 < c.BN
    · rw [if_pos hq, if_pos hq]
      refine ⟨p1 + 1, ?_⟩
      unfold sepP
      rfl
    · rw [if_neg hq, if_neg hq]
      exact ⟨p1, rfl⟩
  obtain ⟨p2, h2⟩ := h2
  obtain ⟨p3, h3⟩ := rd_back [62, 32] 43 (cut b c.B c.BN) p2 rest hRb hp
  refine ⟨p3, ?_⟩
  rw [hAl] at h1
  rw [hBl] at h3
  unfold hkP chgL
  simp only [List.cons_append, nxt, fd_snoc, if_true, List.dropLast_concat, cmd_back hn hA hB, List.append_assoc]
  rw [if_neg (by omega)]
  simp only [h1, h2, h3]
end Go.Proofs.YtlgipdmjannidaaGreatDoor

/- The normal form of an edit script: read again it is the hunks without context; a part of it is never read as the whole; plain mathematics. -/
set_option maxRecDepth 20000
namespace Go.Proofs.YtlgipdmjannidaaGreatDoor
open Ln

theorem rows_of {a : List (List UInt8)} (h : checkB a = true) : Rows a := by
  induction a with
  | nil => trivial
  | cons s t ih =>
    simp only [checkB, Bool.and_eq_true] at h
    have h1 := h.1
    rw [lineB_eq] at h1
    simp only [Bool.and_eq_true, Bool.or_eq_true] at h1
    refine ⟨h1.1, fun hne => ?_, ih h.2⟩
    rcases h1.2 with h2 | h2
    · cases t with
      | nil => exact absurd rfl hne
      | cons => cases h2
    · exact h2
theorem rows_drop {a : List (List UInt8)} (n : Nat) (h : Rows a) : Rows (a.drop n) := by
  induction n generalizing a with
  | zero => exact h
  | succ n ih =>
    cases a with
    | nil => trivial
    | cons s t => exact ih h.2.2
theorem rows_take {a : List (List UInt8)} (n : Nat) (h : Rows a) : Rows (a.take n) := by
  induction n generalizing a with
  | zero => trivial
  | succ n ih =>
    cases a with
    | nil => trivial
    | cons s t =>
      refine ⟨h.1, fun hne => h.2.1 fun e => ?_, ih h.2.2⟩
      subst e
      simp at hne
theorem rows_cut {a : List (List UInt8)} (h : checkB a = true) (p n : Int) : Rows (cut a p n) := rows_take _ (rows_drop _ (rows_of h))
theorem rows_lin {a : List (List UInt8)} (h : Rows a) : ∀ x ∈ a, linB x = true := by
  induction a with
  | nil => intro x hx; cases hx
  | cons s t ih =>
    intro x hx
    rcases List.mem_cons.1 hx with rfl | hx
    · exact h.1
    · exact ih h.2.2 x hx
theorem npk_mks {no sg : Int} (t : List (List UInt8)) : pkL no (mks sg t) = if sg ≠ no ∧ okS sg = true then t else [] := by
  induction t with
  | nil => simp [mks, pkL]
  | cons s t ih =>
    have e : mks sg (s :: t) = ⟨sg, s⟩ :: mks sg t := rfl
    rw [e, pkL, ih]
    split <;> rfl
/-- the hunk of one change without context -/
theorem one_zero {a b : List (List UInt8)} {c : Ch} (hn : numB c = true) (hA : c.A + c.AN ≤ a.length) (hB : c.B + c.BN ≤ b.length) : oneH a b 0 [c] = ⟨noA c.A c.AN, c.AN, noA c.B c.BN, c.BN, mks 45 (cut a c.A c.AN) ++ mks 43 (cut b c.B c.BN)⟩ := by
  have h := (numB_iff c).1 hn
  have e : bodyH a b (min (a.length : Int) (c.A + c.AN + 0)) (c.A - min 0 c.A) [c] = mks 45 (cut a c.A c.AN) ++ mks 43 (cut b c.B c.BN) := by
    rw [show min (a.length : Int) (c.A + c.AN + 0) = c.A + c.AN by omega, show c.A - min 0 c.A = c.A by omega]
    simp only [bodyH]
    rw [show c.A - c.A = (0 : Int) by omega, show c.A + c.AN - (c.A + c.AN) = (0 : Int) by omega, cut_zero, cut_zero]
    simp [mks]
  have l1 : ((cut a c.A c.AN).length : Int) = c.AN := hcut_length (by omega) (by omega) hA
  have l2 : ((cut b c.B c.BN).length : Int) = c.BN := hcut_length (by omega) (by omega) hB
  have p1 : pkL 43 (mks 45 (cut a c.A c.AN) ++ mks 43 (cut b c.B c.BN)) = cut a c.A c.AN := by
    rw [pkL_append, npk_mks, npk_mks, if_pos (by decide), if_neg (by decide), List.append_nil]
  have p2 : pkL 45 (mks 45 (cut a c.A c.AN) ++ mks 43 (cut b c.B c.BN)) = cut b c.B c.BN := by
    rw [pkL_append, npk_mks, npk_mks, if_neg (by decide), if_pos (by decide), List.nil_append]
  show cntH (c.A - min 0 c.A) (c.B - min 0 c.A) (bodyH a b (min (a.length : Int) (c.A + c.AN + 0)) (c.A - min 0 c.A) [c]) = _
  rw [e]
  unfold cntH noA
  rw [p1, p2, l1, l2, show c.A - min 0 c.A = c.A by omega, show c.B - min 0 c.A = c.B by omega]
  have q1 : (0 < (cut a c.A c.AN).length) = (0 < c.AN) := propext ⟨fun q => by omega, fun q => by omega⟩
  have q2 : (0 < (cut b c.B c.BN).length) = (0 < c.BN) := propext ⟨fun q => by omega, fun q => by omega⟩
  simp only [q1, q2]
theorem right_mem {fl : Bool} {p q n m : Int} {l : List Ch} (h : Right fl p q n m l) : ∀ c ∈ l, numB c = true ∧ c.A + c.AN ≤ n ∧ c.B + c.BN ≤ m := by
  induction l generalizing fl p q with
  | nil => intro c hc; cases hc
  | cons x l ih =>
    intro c hc
    rcases List.mem_cons.1 hc with rfl | hc
    · exact ⟨h.1.1, h.2.le.1, h.2.le.2.1⟩
    · exact ih h.2 c hc
theorem mk_zero {l : List Ch} {a b : List (List UInt8)} (hs : Script l a.length b.length) : mkR l a b 0 = l.map fun c => oneH a b 0 [c] := by
  rw [(mkR_eq hs (by omega)).1, grp_zero l _ _ _ _ _ hs.2.2]
  simp
theorem pk_prt {l : List Ch} {a b : List (List UInt8)} (h : ∀ c ∈ l, numB c = true) : pkM (prtL l a b) = false := by
  cases l with
  | nil => rfl
  | cons c l =>
    obtain ⟨_, y, t, e, hy⟩ := cmd_bytes (h c (by simp))
    unfold prtL
    rw [List.flatMap_cons, chgL, e]
    simp only [List.cons_append, pkM, markT, List.isPrefixOf]
    have : ((92 : UInt8) == y) = false := by rw [beq_eq_false_iff_ne]; exact fun q => hy q.symm
    rw [this]
    rfl
/-- what was written is read again -/
theorem hks_back {a b : List (List UInt8)} (ha : checkB a = true) (hb : checkB b = true) (hal : a.length ≤ 2147483647) (hbl : b.length ≤ 2147483647) (l : List Ch) : ∀ (f k p : Nat), (∀ c ∈ l, numB c = true ∧ c.A + c.AN ≤ a.length ∧ c.B + c.BN ≤ b.length) → k + l.length ≤ 4096 → (prtL l a b).length ≤ f → hksP f k p (prtL l a b) = .ok (l.map fun c => oneH a b 0 [c]) := by
  induction l with
  | nil =>
    intro f k p _ _ _
    cases f <;> rfl
  | cons c l ih =>
    intro f k p h hk hf
    have hc := h c (by simp)
    have hn := (numB_iff c).1 hc.1
    have e : prtL (c :: l) a b = chgL a b c ++ prtL l a b := rfl
    rw [e] at hf ⊢
    have l1 : ((cut a c.A c.AN).length : Int) = c.AN := hcut_length (by omega) (by omega) hc.2.1
    have l2 : ((cut b c.B c.BN).length : Int) = c.BN := hcut_length (by omega) (by omega) hc.2.2
    obtain ⟨p', hh⟩ := hk_back (k := k) (p := p) (rest := prtL l a b) hc.1 (by omega) (by omega) (by omega) (by omega) (rows_cut ha c.A c.AN) (rows_cut hb c.B c.BN) (by simp at hk; omega) (pk_prt fun x hx => (h x (by simp [hx])).1)
    have hlen : 1 ≤ (chgL a b c).length := by simp [chgL]
    rw [List.length_append] at hf
    cases f with
    | zero => omega
    | succ f =>
      have hi := ih f (k + 1) p' (fun x hx => h x (by simp [hx])) (by simp at hk; omega) (by omega)
      simp only [hksP]
      rw [if_neg (by simp [chgL]), hh]
      simp only [hi]
      simp only [List.map_cons]
      rw [one_zero hc.1 hc.2.1 hc.2.2]
/-- all lines that are written have their line feed, at the end alone -/
def Fed (ls : List (List UInt8)) : Prop := ∀ s ∈ ls, ∃ t, s = t ++ [10] ∧ ∀ c ∈ t, c ≠ 10
theorem fed_check {ls : List (List UInt8)} (h : Fed ls) : checkB ls = true := by
  induction ls with
  | nil => rfl
  | cons s r ih =>
    obtain ⟨t, e, ht⟩ := h s (by simp)
    simp only [checkB, Bool.and_eq_true]
    refine ⟨?_, ih fun x hx => h x (by simp [hx])⟩
    rw [e]
    exact lineB_cut ht _
theorem fed_line {ah x : List UInt8} (ha : ∀ c ∈ ah, c ≠ 10) (hx : linB x = true) : Fed (lnL ah x) := by
  obtain ⟨h0, h1⟩ := lin_no hx
  unfold lnL
  split
  · rename_i hf
    intro s hs
    rw [List.mem_singleton.1 hs]
    refine ⟨ah ++ x.dropLast, ?_, ?_⟩
    · rw [List.append_assoc, ← fd_form hf]
    · intro c hc
      rcases List.mem_append.1 hc with hc | hc
      · exact ha c hc
      · exact h1 c hc
  · rename_i hf
    intro s hs
    rcases List.mem_cons.1 hs with rfl | hs
    · refine ⟨ah ++ x, rfl, ?_⟩
      intro c hc
      rcases List.mem_append.1 hc with hc | hc
      · exact ha c hc
      · intro e
        subst e
        rcases List.eq_nil_or_concat x with rfl | ⟨q, y, rfl⟩
        · cases hc
        · rw [List.concat_eq_append] at hc hf h1
          rcases List.mem_append.1 hc with hc | hc
          · exact h1 10 (by simpa using hc) rfl
          · have : y = 10 := (List.mem_singleton.1 hc).symm
            subst this
            exact hf (fd_snoc q)
    · rw [List.mem_singleton.1 hs]
      refine ⟨markT.dropLast, rfl, ?_⟩
      decide
theorem fed_prt {a b : List (List UInt8)} (ha : checkB a = true) (hb : checkB b = true) {l : List Ch} (h : ∀ c ∈ l, numB c = true) : Fed (prtL l a b) := by
  intro s hs
  obtain ⟨c, hc, hs⟩ := List.mem_flatMap.1 hs
  unfold chgL at hs
  rcases List.mem_cons.1 hs with rfl | hs
  · exact ⟨cmdT c, rfl, (cmd_bytes (h c hc)).1⟩
  · rcases List.mem_append.1 hs with hs | hs
    · obtain ⟨x, hx, hs⟩ := List.mem_flatMap.1 hs
      exact fed_line (by decide) (rows_lin (rows_cut ha c.A c.AN) x hx) s hs
    · rcases List.mem_append.1 hs with hs | hs
      · unfold sepL at hs
        split at hs
        · rw [List.mem_singleton.1 hs]
          exact ⟨[45, 45, 45], rfl, by decide⟩
        · cases hs
      · obtain ⟨x, hx, hs⟩ := List.mem_flatMap.1 hs
        exact fed_line (by decide) (rows_lin (rows_cut hb c.B c.BN) x hx) s hs
theorem split_prt {a b : List (List UInt8)} (ha : checkB a = true) (hb : checkB b = true) {l : List Ch} (h : ∀ c ∈ l, numB c = true) : splitL (prtT l a b) = prtL l a b := right_split _ (fed_check (fed_prt ha hb h))
/-- 12.3: what is written of right lines is read as the hunks without context -/
theorem normal_back {l : List Ch} {a b : List (List UInt8)} (hs : Script l a.length b.length) (ha : checkB a = true) (hb : checkB b = true) (hal : a.length ≤ 1000000) (hbl : b.length ≤ 1000000) (hl : l.length ≤ 4096) : prsT (prtT l a b) = if 1048576 < (prtT l a b).length then .error (0, 9) else .ok (mkR l a b 0) := by
  have hm := right_mem hs.2.2
  unfold prsT
  rw [split_prt ha hb fun c hc => (hm c hc).1, hks_back ha hb (by omega) (by omega) l _ 0 0 hm (by omega) (Nat.le_refl _), mk_zero hs]
/-- what was read had its line feeds -/
def Alf (c : List (List UInt8)) : Prop := ∀ s ∈ c, fdB s = true
theorem alf_app {x y : List (List UInt8)} (hx : Alf x) (hy : Alf y) : Alf (x ++ y) := fun s hs => (List.mem_append.1 hs).elim (hx s) (hy s)
theorem mark_fed {s : List UInt8} (hp : ∀ c ∈ s.dropLast, c ≠ 10) (h : markT.isPrefixOf s = true) : fdB s = true := by
  obtain ⟨t, rfl⟩ := List.isPrefixOf_iff_prefix.1 h
  cases t with
  | nil => rfl
  | cons x t =>
    exfalso
    refine hp 10 ?_ rfl
    rw [List.dropLast_append_of_ne_nil (by simp)]
    exact List.mem_append_left _ (by decide)
theorem nxt_fed {p : Nat} {ls r : List (List UInt8)} {s : List UInt8} (h : nxt p ls = .ok (s, r)) : ∃ c, ls = c ++ r ∧ Alf c := by
  refine ⟨[s ++ [10]], nxt_ok h, ?_⟩
  intro x hx
  rw [List.mem_singleton.1 hx]
  exact fd_snoc s
theorem mkd_fed {sg : List UInt8} {last : Bool} {p p1 : Nat} {ls r : List (List UInt8)} {t : List UInt8} (hP : Plain ls) (h : mkd sg last p ls = .ok (t, p1, r)) : ∃ c, ls = c ++ r ∧ Alf c := by
  unfold mkd at h
  split at h
  · cases h
  · rename_i s r0 hn
    obtain ⟨c, e, hc⟩ := nxt_fed hn
    split at h
    · split at h
      · rename_i hl
        split at h
        · cases h
        · cases h
          simp only [Bool.and_eq_true] at hl
          cases r0 with
          | nil => simp [pkM] at hl
          | cons y r0 =>
            refine ⟨c ++ [y], by rw [e]; simp, alf_app hc ?_⟩
            intro x hx
            rw [List.mem_singleton.1 hx]
            exact mark_fed (hP y (by rw [e]; simp)) hl.2
      · cases h
        exact ⟨c, e, hc⟩
    · cases h
theorem rdN_fed {sg : List UInt8} {S : Int} (n : Nat) : ∀ {p p1 : Nat} {ls r : List (List UInt8)} {l : List Mk}, Plain ls → rdN sg S n p ls = .ok (l, p1, r) → ∃ c, ls = c ++ r ∧ Alf c := by
  induction n with
  | zero =>
    intro p p1 ls r l hP h
    simp only [rdN] at h
    cases h
    exact ⟨[], rfl, fun s hs => by cases hs⟩
  | succ n ih =>
    intro p p1 ls r l hP h
    simp only [rdN] at h
    split at h
    · cases h
    · rename_i t q1 r1 hm
      obtain ⟨c1, e1, hc1⟩ := mkd_fed hP hm
      have hP1 := (mkd_ok hP hm).2.2.1
      split at h
      · cases h
      · rename_i l' q2 r2 hr
        obtain ⟨c2, e2, hc2⟩ := ih hP1 hr
        cases h
        exact ⟨c1 ++ c2, by rw [e1, e2]; simp, alf_app hc1 hc2⟩
theorem hkP_fed {k p p1 : Nat} {ls r : List (List UInt8)} {h : Hk} (hP : Plain ls) (hh : hkP k p ls = .ok (h, p1, r)) : ∃ c, ls = c ++ r ∧ Alf c := by
  unfold hkP at hh
  split at hh
  · cases hh
  · rename_i s r0 hn
    obtain ⟨c0, e0, hc0⟩ := nxt_fed hn
    have hP0 := (nxt_len hP hn).2
    split at hh
    · cases hh
    · rename_i A AN B BN hc
      split at hh
      · cases hh
      · split at hh
        · cases hh
        · rename_i l1 q1 r1 h1
          obtain ⟨c1, e1, hc1⟩ := rdN_fed _ hP0 h1
          have hP1 := (rdN_ok _ hP0 h1).2.2.2.1
          split at hh
          · cases hh
          · rename_i q2 r2 h2
            have hs : (∃ c, r1 = c ++ r2 ∧ Alf c) ∧ Plain r2 := (by
              split at h2
              · unfold sepP at h2
                split at h2
                · cases h2
                · rename_i s3 r3 hn3
                  split at h2
                  · cases h2
                    exact ⟨nxt_fed hn3, (nxt_len hP1 hn3).2⟩
                  · cases h2
              · cases h2
                exact ⟨⟨[], rfl, fun s hs => by cases hs⟩, hP1⟩)
            obtain ⟨⟨c2, e2, hc2⟩, hP2⟩ := hs
            split at hh
            · cases hh
            · rename_i l2 q3 r3 h3
              obtain ⟨c3, e3, hc3⟩ := rdN_fed _ hP2 h3
              cases hh
              exact ⟨c0 ++ (c1 ++ (c2 ++ c3)), by rw [e0, e1, e2, e3]; simp, alf_app hc0 (alf_app hc1 (alf_app hc2 hc3))⟩
theorem hksP_fed (f : Nat) : ∀ {k p : Nat} {ls : List (List UInt8)} {l : List Hk}, Plain ls → ls.length ≤ f → hksP f k p ls = .ok l → Alf ls := by
  induction f with
  | zero =>
    intro k p ls l hP hf h
    have : ls = [] := List.eq_nil_of_length_eq_zero (by omega)
    subst this
    intro s hs
    cases hs
  | succ f ih =>
    intro k p ls l hP hf h
    simp only [hksP] at h
    split at h
    · rename_i he
      subst he
      intro s hs
      cases hs
    · split at h
      · cases h
      · rename_i hk q1 r1 h1
        obtain ⟨a1, a2, a3⟩ := hkP_ok hP h1
        obtain ⟨c, e, hc⟩ := hkP_fed hP h1
        have hpos : 0 < hkC1 hk := by unfold hkC1; omega
        split at h
        · cases h
        · rename_i l' h2
          have := ih a3 (by omega) h2
          rw [e]
          exact alf_app hc this
/-- what is read ends with a line feed -/
theorem prs_feed {t : List UInt8} {l : List Hk} (h : prsT t = .ok l) : t = [] ∨ fdB t = true := by
  unfold prsT at h
  split at h
  · cases h
  · have hf := hksP_fed _ (split_plain t) (Nat.le_refl _) h
    have hj := split_join t
    cases hq : splitL t with
    | nil => left; exact split_nil hq
    | cons x r =>
      right
      rw [hq] at hj hf
      have hl : ∀ (x : List UInt8) (r : List (List UInt8)), Alf (x :: r) → fdB (x :: r).flatten = true := by
        intro x r
        induction r generalizing x with
        | nil =>
          intro h1
          have := h1 x (by simp)
          simpa using this
        | cons y r ih =>
          intro h1
          have := ih y fun s hs => h1 s (by simp [hs])
          rw [List.flatten_cons]
          exact (fd_app this).1
      rw [← hj]
      exact hl x r hf
theorem prs_count {t : List UInt8} {l : List Hk} (h : prsT t = .ok l) : hksC l = (splitL t).length := by
  unfold prsT at h
  split at h
  · cases h
  · exact hksP_ok _ (split_plain t) (Nat.le_refl _) h
/-- a part of what is written is never read as the whole -/
theorem normal_cut {s : List UInt8} {l : List Hk} (hw : prsT s = .ok l) {k : Nat} (hk : k < s.length) : prsT (s.take k) ≠ .ok l := by
  intro hp
  have c1 := prs_count hw
  have c2 := prs_count hp
  have f1 := prs_feed hw
  have f2 := prs_feed hp
  have g1 := split_count s
  have g2 := split_count (s.take k)
  have hfb : ∀ x : List UInt8, feedB x = fdB x := fun x => rfl
  have hs : s ≠ [] := by rintro rfl; simp at hk
  have e1 : (feedB s || s.isEmpty) = true := by
    rcases f1 with f1 | f1
    · exact absurd f1 hs
    · rw [hfb, f1]; rfl
  have e2 : (feedB (s.take k) || (s.take k).isEmpty) = true := by
    rcases f2 with f2 | f2
    · rw [f2]; rfl
    · rw [hfb, f2]; rfl
  rw [e1] at g1
  rw [e2] at g2
  simp only [if_true] at g1 g2
  have g3 : s.count 10 = (s.take k).count 10 + (s.drop k).count 10 := by
    rw [← List.count_append, List.take_append_drop]
  have g4 : 0 < (s.drop k).count 10 := by
    rw [List.count_pos_iff]
    rcases f1 with f1 | f1
    · exact absurd f1 hs
    · have h1 : s.getLast? = some 10 := by simpa [fdB] using f1
      have h2 : (s.drop k).getLast? = some 10 := by
        rw [List.getLast?_drop, if_neg (by omega), h1]
      exact List.mem_of_getLast? h2
  omega
end Go.Proofs.YtlgipdmjannidaaGreatDoor

/- The reference's Print of the normal form, walked. -/
set_option maxRecDepth 20000
namespace Go.Proofs.YtlgipdmjannidaaGreatDoor
open Go.RowKit

theorem prt_more {l : List Ch} {a b : List (List UInt8)} {k : Nat} (hk : k < l.length) : prtT (l.take (k + 1)) a b = prtT (l.take k) a b ++ (chgL a b l[k]).flatten := by
  unfold prtT prtL
  rw [List.take_succ_eq_append_getElem hk, List.flatMap_append, List.flatten_append, List.flatMap_singleton]
theorem prt_pre {l : List Ch} {a b : List (List UInt8)} (k : Nat) : (prtT (l.take k) a b).length ≤ (prtT l a b).length := by
  have e : prtT l a b = prtT (l.take k) a b ++ prtT (l.drop k) a b := by
    unfold prtT prtL
    rw [← List.flatten_append, ← List.flatMap_append, List.take_append_drop]
  rw [e, List.length_append]
  omega
/-- how long what is written is -/
theorem lnL_len (ah s : List UInt8) : (lnL ah s).flatten.length ≤ ah.length + s.length + 29 := by
  unfold lnL
  split <;> simp [markT] <;> omega
theorem lns_len (ah : List UInt8) (x : List (List UInt8)) : (x.flatMap (lnL ah)).flatten.length ≤ x.length * (ah.length + 29) + x.flatten.length := by
  induction x with
  | nil => simp
  | cons s x ih =>
    have h := lnL_len ah s
    simp only [List.flatMap_cons, List.flatten_append, List.length_append, List.length_cons, List.flatten_cons]
    have e : (x.length + 1) * (ah.length + 29) = x.length * (ah.length + 29) + (ah.length + 29) := Nat.succ_mul _ _
    omega
end Go.Proofs.YtlgipdmjannidaaGreatDoor

/- How long the normal form of a script is; plain mathematics. -/
set_option maxRecDepth 20000
namespace Go.Proofs.YtlgipdmjannidaaGreatDoor

theorem cmd_len {c : Ch} (h : numB c = true) : (cmdT c).length ≤ 100 := by
  rw [numB_iff] at h
  have r1 := rng_short c.A c.AN h.1.1 (by omega) h.2.1.1 (by omega)
  have r2 := rng_short c.B c.BN h.2.2.1.1 (by omega) h.2.2.2.1.1 (by omega)
  have r3 := itoa_short c.A (by omega) (by omega)
  have r4 := itoa_short c.B (by omega) (by omega)
  unfold cmdT
  split
  · simp only [List.length_append, List.length_cons]; omega
  · split
    · simp only [List.length_append, List.length_cons]; omega
    · simp only [List.length_append, List.length_cons]; omega
theorem flat_drop {a : List (List UInt8)} {p A AN : Int} (hp : 0 ≤ p) (hA : p ≤ A) (hN : 0 ≤ AN) : (cut a A AN).flatten.length + (a.drop (A + AN).toNat).flatten.length ≤ (a.drop p.toNat).flatten.length := by
  have e1 : a.drop p.toNat = (a.drop p.toNat).take (A - p).toNat ++ a.drop A.toNat := by
    have h := (List.take_append_drop (A - p).toNat (a.drop p.toNat)).symm
    rw [List.drop_drop] at h
    have e : p.toNat + (A - p).toNat = A.toNat := by omega
    rw [e] at h
    exact h
  have e2 : a.drop A.toNat = cut a A AN ++ a.drop (A + AN).toNat := by
    have h := (List.take_append_drop AN.toNat (a.drop A.toNat)).symm
    rw [List.drop_drop] at h
    have e : A.toNat + AN.toNat = (A + AN).toNat := by omega
    rw [e] at h
    exact h
  rw [e1, e2]
  simp only [List.flatten_append, List.length_append]
  omega
theorem cut_le (a : List (List UInt8)) (p n : Int) : (cut a p n).length ≤ n.toNat := by
  unfold cut
  rw [List.length_take]
  omega
theorem chg_len {a b : List (List UInt8)} {c : Ch} (h : numB c = true) : (chgL a b c).flatten.length ≤ 105 + 31 * (c.AN.toNat + c.BN.toNat) + (cut a c.A c.AN).flatten.length + (cut b c.B c.BN).flatten.length := by
  have h1 := cmd_len h
  have h2 := lns_len [60, 32] (cut a c.A c.AN)
  have h3 := lns_len [62, 32] (cut b c.B c.BN)
  have h4 := cut_le a c.A c.AN
  have h5 := cut_le b c.B c.BN
  have h6 : (sepL c).flatten.length ≤ 4 := by
    unfold sepL
    split <;> simp
  simp only [List.length_cons, List.length_nil] at h2 h3
  simp only [chgL, List.flatten_cons, List.flatten_append, List.length_append, List.length_cons, List.length_nil]
  omega
theorem prt_len_at {a b : List (List UInt8)} {n m : Int} (l : List Ch) : ∀ {f : Bool} {p q : Int}, 0 ≤ p → 0 ≤ q → Right f p q n m l → (prtT l a b).length ≤ 105 * l.length + 31 * ((n - p).toNat + (m - q).toNat) + (a.drop p.toNat).flatten.length + (b.drop q.toNat).flatten.length := by
  induction l with
  | nil =>
    intro f p q _ _ _
    simp [prtT, prtL]
  | cons c l ih =>
    intro f p q hp hq h
    obtain ⟨⟨h1, h2, h3, _⟩, h5⟩ := h
    have hn := (numB_iff c).1 h1
    have hle := h5.le
    have g := ih (by omega) (by omega) h5
    have g1 := @chg_len a b c h1
    have g2 := @flat_drop a p c.A c.AN hp h3 hn.2.1.1
    have g3 := @flat_drop b q c.B c.BN hq (by omega) hn.2.2.2.1.1
    have e : prtT (c :: l) a b = (chgL a b c).flatten ++ prtT l a b := by simp [prtT, prtL]
    rw [e, List.length_append, List.length_cons]
    omega
/-- what is written of a right script -/
theorem prt_len {a b : List (List UInt8)} {l : List Ch} (h : Script l a.length b.length) : (prtT l a b).length ≤ 105 * l.length + 31 * (a.length + b.length) + a.flatten.length + b.flatten.length := by
  have g := @prt_len_at a b a.length b.length l true 0 0 (by omega) (by omega) h.2.2
  simpa using g
end Go.Proofs.YtlgipdmjannidaaGreatDoor

/- The code's small functions of layer 12's Print, walked: numbers, ranges, letters, lines that are written. -/
set_option maxRecDepth 20000
namespace Go.Proofs.YtlgipdmjannidaaGreatDoor
open Go.RowKit

/-- the table of powers of ten, in every later world -/
def Tab10 (w : World) : Prop := ∀ u : World, Below w.heap.size w u → Lib.TabIs Tryz.prog u "internal/strconv.uint64pow10" .u64 Lib.pow10Tab
theorem Tab10.on {w u : World} (h : Tab10 w) (hb : Below w.heap.size w u) : Tab10 u := fun v hv => h v (hb.trans (hv.mono hb.size))
set_option maxHeartbeats 1000000 in
theorem nText_f (n : Int) (h0 : -9223372036854775808 ≤ n) (h1 : n ≤ 9223372036854775807) (w : World) (HT : Hid (Tab10 w)) :
    Calls Tryz.prog 116 #[.int .i64 n] w fun e w' => e = .returned (.string ⟨(Lib.itoa n).toArray⟩) ∧ Below w.heap.size w w' := by
  go_enter Tryz.func116, Tryz.ntmps116
  go_wp2_with fail
  refine (Tryz.strconv_Itoa n h0 h1 _ (HT.out _ (Below.refl _ _))).mono ?_
  rintro e w1 ⟨rfl, k, os, rfl⟩
  go_wp2
  go_ret
  exact ⟨rfl, Lib.below_grow w.heap.size w (Nat.le_refl _) k os⟩
/-- a range as the code writes it -/
def rgx (A N : Int) : List UInt8 := if N ≤ 1 then Lib.itoa A else Lib.itoa A ++ 44 :: Lib.itoa (A + N - 1)
theorem rgx_len {A N : Int} (h0 : 0 ≤ A) (h1 : A ≤ 4611686018427387904) (h2 : 0 ≤ N) (h3 : N ≤ 4611686018427387900) : (rgx A N).length ≤ 43 := by
  have l1 := itoa_short A (by omega) (by omega)
  have l2 := itoa_short (A + N - 1) (by omega) (by omega)
  unfold rgx
  split
  · omega
  · simp only [List.length_append, List.length_cons]
    omega
/-- what a hunk does, as the code writes it -/
def ltrT (AN BN : Int) : List UInt8 := if AN = 0 then [97] else if BN = 0 then [100] else [99]
theorem ltr_len (AN BN : Int) : (ltrT AN BN).length = 1 := by
  unfold ltrT
  split
  · rfl
  · split <;> rfl
end Go.Proofs.YtlgipdmjannidaaGreatDoor

/- The code's writeLines of layer 12, walked: lines behind a sign are written into a builder. -/
set_option maxRecDepth 20000
namespace Go.Proofs.YtlgipdmjannidaaGreatDoor
open Go.RowKit

theorem bcells_len (l : List UInt8) : (Lib.byteCells l).length = l.length := by simp [Lib.byteCells]
theorem suf_feed (s : List UInt8) : Lib.hasSuffix s [10] = fdB s := by
  unfold Lib.hasSuffix fdB
  rw [Bool.eq_iff_iff, List.isSuffixOf_iff_suffix, beq_iff_eq]
  constructor
  · rintro ⟨t, rfl⟩
    simp
  · intro h
    obtain ⟨t, rfl⟩ := List.getLast?_eq_some_iff.1 h
    exact ⟨t, rfl⟩
/-- a builder stays as it is where all ahead stays -/
theorem isF_low {T e : TypeId} {B b : Nat} {bs : List Value} {w w' : World} (h : Lib.IsBuilderF T e B b bs w) (hb : Below w.heap.size w w') : Lib.IsBuilderF T e B b bs w' := by
  have key : ∀ p, Lib.BuilderAtF T e B b p bs w → Lib.BuilderAtF T e B b p bs w' := by
    rintro p ⟨h1, v, h2, h3, h4⟩
    refine ⟨h1, v, (hb.block b (Array.getElem?_eq_some_iff.1 h2).1).trans h2, ⟨h3.1, ?_⟩, h4⟩
    rcases h3.2 with q | ⟨g, cap, cur, fz, q1, q2, q3, q4⟩
    · exact .inl q
    · exact .inr ⟨g, cap, cur, fz, q1, q2, (hb.block g (Array.getElem?_eq_some_iff.1 q3).1).trans q3, q4⟩
  rcases h with h | h
  · exact .inl (key _ h)
  · exact .inr (key _ h)
theorem isF_fresh (w : World) : Lib.IsBuilderF 98 5 w.heap.size w.heap.size (Lib.byteCells []) (w.alloc (.cells #[.pointer none, .slice none 0 0] 98)) :=
  .inl ⟨Nat.le_refl _, .slice none 0 0, heap_alloc_new w _, ⟨rfl, .inl ⟨rfl, rfl⟩⟩, by simp [Value.ownBlock]⟩
/-- a row of texts of one's own stays where a builder is written -/
theorem owns_others {w u : World} {base b : Nat} {v : Value} {n : Nat} {xs : List Value} (h : w.ownsRow base 9 1 v n xs) (hk : Lib.OthersKept 5 (some b) w u) (hb : ∀ g, v.ownBlock = some g → g ≠ b) : u.ownsRow base 9 1 v n xs := by
  refine ⟨h.1, ?_⟩
  rcases h.2 with q | ⟨g, cap, cur, rfl, q2, q3, q4⟩
  · exact .inl q
  · refine .inr ⟨g, cap, cur, rfl, q2, hk g _ q3 (fun e => hb g rfl (Option.some.inj e)) (fun c fz e => ?_), q4⟩
    cases e
theorem hx_others {w u : World} {b B : Nat} {h : Hk} {v : Value} (q : Hx w B h v) (hk : Lib.OthersKept 5 (some b) w u) (hb : B ≠ b) : Hx u B h v :=
  hk B _ q (fun e => hb (Option.some.inj e)) (fun c fz e => by cases e)
end Go.Proofs.YtlgipdmjannidaaGreatDoor

/- The code's reader of lines, walked: what is wrong is thrown; the next line; the line between. -/
set_option maxRecDepth 20000
namespace Go.Proofs.YtlgipdmjannidaaGreatDoor
open Go.RowKit
attribute [local go_sem] ByteArray.extract_mk no_at

/-- a fault -/
def fltO (a z : Int) : Obj := .cells #[.int .i64 a, .iface 27 (.int .i64 z)] 59
section
variable {u u' : World} {R : Nat} {vL : Value} {p : Int}
end
/-- what is wrong is thrown -/
def Thr (a z : Int) (x : Ending) (w' : World) : Prop := ∃ g, x = .panicked [{ v := .iface 57 (.pointer (some ⟨g, 0, none⟩)), recovered := false }] ∧ w'.heap[g]? = some (fltO a z)
/-- what a line that is read leaves behind -/
def LnQ (R : Nat) (_vL : Value) (_p : Nat) (X : Except (Nat × Int) (List UInt8 × List (List UInt8))) (w : World) (x : Ending) (w' : World) : Prop :=
  match X with
  | .error (a, e) => Thr (a : Int) e x w' ∧ w.grownBy w' (some R)
  | .ok (s, _) => x = .returned (.string ⟨(s ++ [10]).toArray⟩) ∧ ∃ n, w' = w.drewN n
theorem drop_feed {s : List UInt8} (h : fdB s = true) : s.dropLast ++ [10] = s := (fd_form h).symm
end Go.Proofs.YtlgipdmjannidaaGreatDoor

/- What is read in the normal form are right hunks; plain mathematics. -/
set_option maxRecDepth 20000
namespace Go.Proofs.YtlgipdmjannidaaGreatDoor
open Ln

theorem sat_pos : ∀ (l : List UInt8) (n : Int), 0 ≤ n → l.all Pn.digB = true → 0 ≤ Pn.sat n l
  | [], _, hn, _ => hn
  | c :: t, n, hn, h => by
    simp only [List.all_cons, Bool.and_eq_true] at h
    have h1 := Pn.digB_out h.1
    rw [Pn.sat]
    exact sat_pos t _ (by omega) h.2
theorem prs_num {s : List UInt8} : 0 ≤ Pn.parseV s ∧ Pn.parseV s ≤ 2147483647 := by
  unfold Pn.parseV
  split
  · rename_i h
    exact ⟨sat_pos s 0 (by omega) (Pn.isNum_all h.1), h.2⟩
  · omega
theorem lns_right {s : List UInt8} {x n : Int} (h : lnsP s = some (x, n)) : 1 ≤ x ∧ x ≤ 2147483647 ∧ 1 ≤ n ∧ n ≤ 2147483647 := by
  unfold lnsP at h
  split at h
  · split at h
    · rename_i y _ z _ hc
      cases h
      have h1 := @prs_num y
      have h2 := @prs_num z
      omega
    · cases h
  · split at h
    · rename_i hc
      cases h
      have h1 := @prs_num s
      omega
    · cases h
theorem one_right {s : List UInt8} {x n : Int} (h : oneP s = some (x, n)) : 0 ≤ x ∧ x ≤ 2147483647 ∧ n = 0 := by
  unfold oneP at h
  split at h
  · cases h
    have h1 := @prs_num s
    omega
  · cases h
theorem cmd_right {s : List UInt8} {A AN B BN : Int} (h : cmdP s = some (A, AN, B, BN)) : (0 ≤ A ∧ A ≤ 2147483647 ∧ 0 ≤ AN ∧ AN ≤ 2147483647 ∧ (0 < AN → 1 ≤ A)) ∧ (0 ≤ B ∧ B ≤ 2147483647 ∧ 0 ≤ BN ∧ BN ≤ 2147483647 ∧ (0 < BN → 1 ≤ B)) ∧ (0 < AN ∨ 0 < BN) := by
  unfold cmdP at h
  split at h
  · cases h
  · rename_i x c y _
    split at h
    · rename_i A' AN' B' BN' h1 h2
      cases h
      by_cases hc : c = 97
      · subst hc
        rw [if_pos rfl] at h1
        rw [if_neg (by decide)] at h2
        have q1 := one_right h1
        have q2 := lns_right h2
        omega
      · rw [if_neg hc] at h1
        have q1 := lns_right h1
        by_cases hd : c = 100
        · subst hd
          rw [if_pos rfl] at h2
          have q2 := one_right h2
          omega
        · rw [if_neg hd] at h2
          have q2 := lns_right h2
          omega
    · cases h
theorem pk_out {no : Int} {l : List Mk} (h : ∀ m ∈ l, m.sg = no) : pkL no l = [] := by
  induction l with
  | nil => rfl
  | cons m l ih =>
    have hm := h m (by simp)
    simp only [pkL]
    rw [if_neg (fun hq => hq.1 hm)]
    exact ih fun x hx => h x (by simp [hx])
theorem pk_in {no s : Int} (hs : s ≠ no) (ho : okS s = true) {l : List Mk} (h : ∀ m ∈ l, m.sg = s) : (pkL no l).length = l.length := by
  induction l with
  | nil => rfl
  | cons m l ih =>
    have hm := h m (by simp)
    simp only [pkL]
    rw [if_pos (by rw [hm]; exact ⟨hs, ho⟩), List.length_cons, List.length_cons, ih fun x hx => h x (by simp [hx])]
theorem fld_last {S no : Int} (hS : okS S = true) (hn : (no = 43 ∧ S = 45) ∨ (no = 45 ∧ S = 43)) : ∀ (l r : List Mk), (∀ m ∈ l, m.sg = S ∧ linB m.tx = true) → (∀ m ∈ l.dropLast, fdB m.tx = true) → (∀ m ∈ r, m.sg = no) → fldB r = true → fldB (l ++ r) = true
  | [], _, _, _, _, hr => hr
  | [m], r, h1, _, h3, hr => by
    obtain ⟨a1, a2⟩ := h1 m (by simp)
    have h4 : lstB S r = true := (by
      unfold lstB
      rw [List.all_eq_true]
      intro x hx
      have := h3 x hx
      rw [this]
      rcases hn with ⟨rfl, rfl⟩ | ⟨rfl, rfl⟩ <;> decide)
    simp only [List.singleton_append, fldB, a1, a2, hS, hr, Bool.and_true, Bool.true_and]
    rcases hn with ⟨rfl, rfl⟩ | ⟨rfl, rfl⟩ <;> simp [h4]
  | m :: x :: l, r, h1, h2, h3, hr => by
    obtain ⟨a1, a2⟩ := h1 m (by simp)
    have h4 : fdB m.tx = true := h2 m (by simp [List.dropLast_cons_cons])
    have := fld_last hS hn (x :: l) r (fun y hy => h1 y (by simp at hy ⊢; exact Or.inr hy)) (fun y hy => h2 y (by rw [List.dropLast_cons_cons]; exact List.mem_cons_of_mem _ hy)) h3 hr
    rw [List.cons_append, fldB, this, a1, a2, hS, h4]
    rfl
/-- a hunk that was read is right -/
theorem hk_right {k p p1 : Nat} {ls r : List (List UInt8)} {h : Hk} (hP : Plain ls) (hh : hkP k p ls = .ok (h, p1, r)) : chkH h = 0 := by
  unfold hkP at hh
  split at hh
  · cases hh
  · rename_i s r0 hn
    obtain ⟨a1, a2⟩ := nxt_len hP hn
    split at hh
    · cases hh
    · rename_i A AN B BN hc
      have hr := cmd_right hc
      split at hh
      · cases hh
      · split at hh
        · cases hh
        · rename_i l1 q1 r1 h1
          obtain ⟨b1, b2, b3, b4, b5, b6⟩ := rdN_ok _ a2 h1
          split at hh
          · cases hh
          · rename_i q2 r2 h2
            have hs : Plain r2 := (by
              split at h2
              · unfold sepP at h2
                split at h2
                · cases h2
                · rename_i s3 r3 hn3
                  obtain ⟨c1, c2⟩ := nxt_len b4 hn3
                  split at h2
                  · cases h2
                    exact c2
                  · cases h2
              · cases h2
                exact b4)
            split at hh
            · cases hh
            · rename_i l2 q3 r3 h3
              obtain ⟨d1, d2, d3, d4, d5, d6⟩ := rdN_ok _ hs h3
              cases hh
              have e1 : rngB ⟨A, AN, B, BN, l1 ++ l2⟩ = true := (by
                simp only [rngB, nat31, Bool.and_eq_true, Bool.not_eq_true', Bool.and_eq_false_iff, decide_eq_true_eq, decide_eq_false_iff_not]
                omega)
              have e2 : fldB (l1 ++ l2) = true := (by
                have g := fld_last (S := 43) (no := 45) (by decide) (Or.inr ⟨rfl, rfl⟩) l2 [] d5 d6 (fun m hm => by cases hm) rfl
                rw [List.append_nil] at g
                exact fld_last (S := 45) (no := 43) (by decide) (Or.inl ⟨rfl, rfl⟩) l1 l2 b5 b6 (fun m hm => (d5 m hm).1) g)
              have e3 : (oldL ⟨A, AN, B, BN, l1 ++ l2⟩).length = l1.length := (by
                show (pkL 43 (l1 ++ l2)).length = _
                rw [pkL_append, List.length_append, pk_in (s := 45) (by decide) (by decide) (fun m hm => (b5 m hm).1), pk_out (fun m hm => (d5 m hm).1)]
                simp)
              have e4 : (newL ⟨A, AN, B, BN, l1 ++ l2⟩).length = l2.length := (by
                show (pkL 45 (l1 ++ l2)).length = _
                rw [pkL_append, List.length_append, pk_out (fun m hm => (b5 m hm).1), pk_in (s := 43) (by decide) (by decide) (fun m hm => (d5 m hm).1)]
                simp)
              have e5 : (l1 ++ l2).all (fun m => decide (m.sg = 32)) = false := (by
                rw [List.all_eq_false]
                rcases hr.2.2 with hq | hq
                · obtain ⟨x, hx⟩ := List.exists_mem_of_length_pos (l := l1) (by omega)
                  exact ⟨x, by simp [hx], by rw [(b5 x hx).1]; decide⟩
                · obtain ⟨x, hx⟩ := List.exists_mem_of_length_pos (l := l2) (by omega)
                  exact ⟨x, by simp [hx], by rw [(d5 x hx).1]; decide⟩)
              unfold chkH
              rw [if_neg (by rw [e1]; decide), if_neg (by rw [e2]; decide), if_neg (by rw [e3, e4]; simp only [b1, d1, not_or, Decidable.not_not]; omega), e5]
              rfl
/-- all hunks that were read are right -/
theorem hks_right (f : Nat) : ∀ {k p : Nat} {ls : List (List UInt8)} {l : List Hk}, Plain ls → hksP f k p ls = .ok l → ∀ h ∈ l, chkH h = 0 := by
  induction f with
  | zero =>
    intro k p ls l _ h
    simp only [hksP] at h
    cases h
    intro x hx
    cases hx
  | succ f ih =>
    intro k p ls l hP h
    simp only [hksP] at h
    split at h
    · cases h
      intro x hx
      cases hx
    · split at h
      · cases h
      · rename_i hk q1 r1 h1
        split at h
        · cases h
        · rename_i l' h2
          cases h
          intro x hx
          rcases List.mem_cons.1 hx with rfl | hx
          · exact hk_right hP h1
          · exact ih (hkP_ok hP h1).2.2 h2 x hx
theorem prs_right {t : List UInt8} {l : List Hk} (h : prsT t = .ok l) : ∀ x ∈ l, chkH x = 0 := by
  unfold prsT at h
  split at h
  · cases h
  · exact hks_right _ (split_plain t) h
end Go.Proofs.YtlgipdmjannidaaGreatDoor

/- The normal form as the code reads it, and that it is read as the plain reader does; plain mathematics. -/
set_option maxRecDepth 20000
namespace Go.Proofs.YtlgipdmjannidaaGreatDoor
open Ln

/-- so many lines with a sign, with their line feeds -/
def rdL (sg : List UInt8) (S : Int) : Nat → Nat → List (List UInt8) → Except (Nat × Int) (List Mk × Nat × List (List UInt8))
  | 0, p, ls => .ok ([], p, ls)
  | n + 1, p, ls => match nxt p ls with
    | .error e => .error e
    | .ok (s, r) => if sg.isPrefixOf s = true then match rdL sg S n (p + 1) r with
        | .error e => .error e
        | .ok (l, p2, r2) => .ok (⟨S, s.drop sg.length ++ [10]⟩ :: l, p2, r2)
      else .error (p + 1, 3)
/-- the last text without its line feed -/
def cutL : List Mk → List Mk
  | [] => []
  | [m] => [⟨m.sg, m.tx.dropLast⟩]
  | m :: l => m :: cutL l
def lastT (l : List Mk) : List UInt8 := (l.getLast?.map (·.tx)).getD []
/-- does the last line lose its line feed? -/
def endK (l : List Mk) (r : List (List UInt8)) : Bool := lastT l != [10] && pkM r
/-- a side as the code reads it -/
def sdC (sg : List UInt8) (S : Int) (n p : Nat) (ls : List (List UInt8)) : Except (Nat × Int) (List Mk × Nat × List (List UInt8)) :=
  match rdL sg S n p ls with
  | .error e => .error e
  | .ok (l, p1, r) => if (decide (0 < n) && endK l r) = true then .ok (cutL l, p1 + 1, r.tail) else .ok (l, p1, r)
/-- a hunk as the code reads it -/
def hkK (k p : Nat) (ls : List (List UInt8)) : Except (Nat × Int) (Hk × Nat × List (List UInt8)) :=
  match nxt p ls with
  | .error e => .error e
  | .ok (s, r) => match cmdP s with
    | none => .error (p + 1, 3)
    | some (A, AN, B, BN) => if k = 4096 then .error (p + 1, 9) else match sdC [60, 32] 45 AN.toNat (p + 1) r with
      | .error e => .error e
      | .ok (l1, p1, r1) => match (if 0 < AN ∧ 0 < BN then sepP p1 r1 else .ok (p1, r1)) with
        | .error e => .error e
        | .ok (p2, r2) => match sdC [62, 32] 43 BN.toNat p2 r2 with
          | .error e => .error e
          | .ok (l2, p3, r3) => .ok (⟨A, AN, B, BN, l1 ++ l2⟩, p3, r3)
def hksK : Nat → Nat → Nat → List (List UInt8) → Except (Nat × Int) (List Hk)
  | 0, _, _, _ => .ok []
  | f + 1, k, p, ls => if ls = [] then .ok [] else match hkK k p ls with
    | .error e => .error e
    | .ok (h, p1, r) => match hksK f (k + 1) p1 r with
      | .error e => .error e
      | .ok l => .ok (h :: l)
/-- a side that is followed by a mark behind an empty line: wrong in both ways of reading -/
def Bad (X Y : Except (Nat × Int) (List Mk × Nat × List (List UInt8))) : Prop := ∃ l p r, Y = .ok (l, p, markT :: r) ∧ X = .error (p + 1, 3)
theorem mark_eq {s : List UInt8} (hp : ∀ c ∈ s.dropLast, c ≠ 10) (h : markT.isPrefixOf s = true) : s = markT := by
  rw [List.isPrefixOf_iff_prefix] at h
  obtain ⟨t, rfl⟩ := h
  cases t with
  | nil => simp
  | cons c t =>
    exfalso
    have h1 : (10 : UInt8) ∈ (markT ++ c :: t).dropLast := by
      rw [List.dropLast_append_of_ne_nil (by simp)]
      exact List.mem_append_left _ (by decide)
    exact hp 10 h1 rfl
theorem cutL_cons {m : Mk} {l : List Mk} (h : l ≠ []) : cutL (m :: l) = m :: cutL l := by
  cases l with
  | nil => exact absurd rfl h
  | cons y l => rfl
theorem cutL_snoc (l : List Mk) (m : Mk) : cutL (l ++ [m]) = l ++ [⟨m.sg, m.tx.dropLast⟩] := by
  induction l with
  | nil => rfl
  | cons x l ih =>
    rw [List.cons_append, cutL_cons (by simp), ih]
    rfl
theorem lastT_snoc (l : List Mk) (m : Mk) : lastT (l ++ [m]) = m.tx := by simp [lastT]
theorem sdC_zero (sg : List UInt8) (S : Int) (p : Nat) (ls : List (List UInt8)) : sdC sg S 0 p ls = .ok ([], p, ls) := by
  unfold sdC rdL
  rfl
theorem lastT_cons {m : Mk} {l : List Mk} (h : l ≠ []) : lastT (m :: l) = lastT l := by
  cases l with
  | nil => exact absurd rfl h
  | cons y l => simp [lastT]
theorem rdL_len {sg : List UInt8} {S : Int} (n : Nat) : ∀ {p : Nat} {ls : List (List UInt8)} {l : List Mk} {p1 : Nat} {r : List (List UInt8)}, rdL sg S n p ls = .ok (l, p1, r) → l.length = n ∧ p1 = p + n ∧ ls.drop n = r ∧ n ≤ ls.length := by
  induction n with
  | zero =>
    intro p ls l p1 r h
    simp only [rdL] at h
    cases h
    exact ⟨rfl, rfl, rfl, Nat.zero_le _⟩
  | succ n ih =>
    intro p ls l p1 r h
    simp only [rdL] at h
    split at h
    · cases h
    · rename_i s r0 hn
      have hls := nxt_ok hn
      split at h
      · split at h
        · cases h
        · rename_i l' q r' hq
          obtain ⟨a1, a2, a3, a4⟩ := ih hq
          cases h
          subst hls
          exact ⟨by simp [a1], by omega, by simpa using a3, by simp; omega⟩
      · cases h
/-- the two ways of reading a side -/
theorem side_both {sg : List UInt8} {S : Int} (n : Nat) : ∀ {p : Nat} {ls : List (List UInt8)}, Plain ls → rdN sg S n p ls = sdC sg S n p ls ∨ Bad (rdN sg S n p ls) (sdC sg S n p ls) := by
  induction n with
  | zero =>
    intro p ls _
    left
    rw [sdC_zero]
    rfl
  | succ n ih =>
    intro p ls hP
    unfold sdC
    simp only [rdN, rdL, mkd]
    cases hn : nxt p ls with
    | error e => left; rfl
    | ok z =>
      obtain ⟨s, r⟩ := z
      dsimp only
      have hls := nxt_ok hn
      subst hls
      have hPr : Plain r := fun x hx => hP x (by simp [hx])
      have hsn : ∀ c ∈ s, c ≠ 10 := by
        have := hP (s ++ [10]) (by simp)
        simpa using this
      by_cases hpre : sg.isPrefixOf s = true
      · rw [if_pos hpre, if_pos hpre]
        cases n with
        | zero =>
          simp only [rdN, rdL]
          have e1 : ((0 : Nat) == 0) = true := rfl
          rw [e1, Bool.true_and]
          have e2 : lastT [(⟨S, s.drop sg.length ++ [10]⟩ : Mk)] = s.drop sg.length ++ [10] := rfl
          unfold endK
          rw [e2]
          have e3 : decide (0 < 0 + 1) = true := rfl
          rw [e3, Bool.true_and]
          cases hk : pkM r with
          | false =>
            left
            rw [if_neg (by decide), Bool.and_false, if_neg (by decide)]
          | true =>
            rw [if_pos rfl, Bool.and_true]
            by_cases hem : s.drop sg.length = []
            · right
              rw [if_pos hem, hem]
              rw [if_neg (by decide)]
              cases r with
              | nil => cases hk
              | cons y r =>
                have : y = markT := mark_eq (hPr y (by simp)) hk
                subst this
                exact ⟨_, _, _, rfl, rfl⟩
            · left
              have e4 : (s.drop sg.length ++ [10] != [10]) = true := by
                rw [bne_iff_ne]
                intro h
                apply hem
                have := congrArg List.length h
                simp at this
                exact List.eq_nil_of_length_eq_zero (by simpa using this)
              rw [if_neg hem, e4, if_pos rfl]
              simp [cutL]
        | succ n =>
          have e1 : ((n + 1 : Nat) == 0) = false := rfl
          rw [e1, Bool.false_and, if_neg (by decide)]
          dsimp only
          have hi := @ih (p + 1) r hPr
          unfold sdC at hi
          cases hL : rdL sg S (n + 1) (p + 1) r with
          | error e =>
            rw [hL] at hi
            left
            rcases hi with hi | ⟨_, _, _, h, _⟩
            · rw [hi]
            · cases h
          | ok z =>
            obtain ⟨l, p1, r1⟩ := z
            rw [hL] at hi
            dsimp only at hi ⊢
            have hlen := (rdL_len _ hL).1
            have hne : l ≠ [] := by
              rintro rfl
              simp at hlen
            unfold endK at hi ⊢
            rw [lastT_cons hne, cutL_cons hne]
            have e3 : decide (0 < n + 1) = true := decide_eq_true (by omega)
            have e4 : decide (0 < n + 1 + 1) = true := decide_eq_true (by omega)
            rw [e3] at hi
            rw [e4]
            by_cases hb : (true && (lastT l != [10] && pkM r1)) = true
            · rw [if_pos hb] at hi ⊢
              rcases hi with hi | ⟨l', p', r', h, h'⟩
              · left
                rw [hi]
              · right
                simp only [Except.ok.injEq, Prod.mk.injEq] at h
                obtain ⟨rfl, rfl, h⟩ := h
                exact ⟨_, _, r', by rw [h], by rw [h']⟩
            · rw [if_neg hb] at hi ⊢
              rcases hi with hi | ⟨l', p', r', h, h'⟩
              · left
                rw [hi]
              · right
                cases h
                exact ⟨_, _, _, rfl, by rw [h']⟩
      · left
        rw [if_neg hpre, if_neg hpre]
theorem sdC_drop {sg : List UInt8} {S : Int} {n p : Nat} {ls : List (List UInt8)} {l : List Mk} {p1 : Nat} {r : List (List UInt8)} (h : sdC sg S n p ls = .ok (l, p1, r)) : ∃ j, r = ls.drop j ∧ p1 = p + j ∧ j ≤ ls.length := by
  unfold sdC at h
  split at h
  · cases h
  · rename_i l' q r' hq
    obtain ⟨a1, a2, a3, a4⟩ := rdL_len _ hq
    split at h
    · rename_i hb
      cases h
      have hk : pkM r' = true := by
        unfold endK at hb
        simp only [Bool.and_eq_true] at hb
        exact hb.2.2
      have h1 : 0 < r'.length := by
        cases r' with
        | nil => cases hk
        | cons => simp
      rw [← a3, List.length_drop] at h1
      exact ⟨n + 1, by rw [← a3, List.tail_drop], by omega, by omega⟩
    · cases h
      exact ⟨n, a3.symm, a2, a4⟩
theorem cutL_len (l : List Mk) : (cutL l).length = l.length := by
  induction l with
  | nil => rfl
  | cons m l ih =>
    cases l with
    | nil => rfl
    | cons y l => rw [cutL_cons (by simp), List.length_cons, ih]; rfl
theorem sdC_len {sg : List UInt8} {S : Int} {n p : Nat} {ls : List (List UInt8)} {l : List Mk} {p1 : Nat} {r : List (List UInt8)} (h : sdC sg S n p ls = .ok (l, p1, r)) : l.length = n := by
  unfold sdC at h
  split at h
  · cases h
  · rename_i l' q r' hq
    obtain ⟨a1, a2, a3, a4⟩ := rdL_len _ hq
    split at h
    · cases h
      rw [cutL_len, a1]
    · cases h
      exact a1
theorem sepP_drop {p p1 : Nat} {ls r : List (List UInt8)} (h : sepP p ls = .ok (p1, r)) : r = ls.drop 1 ∧ p1 = p + 1 ∧ 1 ≤ ls.length := by
  unfold sepP at h
  split at h
  · cases h
  · rename_i s r0 hn
    have := nxt_ok hn
    subst this
    split at h
    · cases h
      exact ⟨rfl, rfl, by simp⟩
    · cases h
theorem hkK_drop {k p p1 : Nat} {ls r : List (List UInt8)} {h : Hk} (hh : hkK k p ls = .ok (h, p1, r)) : ∃ j, r = ls.drop j ∧ p1 = p + j ∧ 1 ≤ j ∧ j ≤ ls.length ∧ k ≠ 4096 := by
  unfold hkK at hh
  split at hh
  · cases hh
  · rename_i s r0 hn
    have := nxt_ok hn
    subst this
    split at hh
    · cases hh
    · split at hh
      · cases hh
      · rename_i hk
        split at hh
        · cases hh
        · rename_i l1 q1 r1 h1
          obtain ⟨j1, b1, b2, b3⟩ := sdC_drop h1
          split at hh
          · cases hh
          · rename_i q2 r2 h2
            have hs : ∃ j, r2 = r1.drop j ∧ q2 = q1 + j ∧ j ≤ r1.length := (by
              split at h2
              · obtain ⟨c1, c2, c3⟩ := sepP_drop h2
                exact ⟨1, c1, c2, c3⟩
              · cases h2
                exact ⟨0, rfl, rfl, Nat.zero_le _⟩)
            obtain ⟨j2, c1, c2, c3⟩ := hs
            split at hh
            · cases hh
            · rename_i l2 q3 r3 h3
              obtain ⟨j3, d1, d2, d3⟩ := sdC_drop h3
              cases hh
              subst d1 c1 b1
              simp only [List.length_drop] at c3 d3
              refine ⟨1 + (j1 + (j2 + j3)), ?_, by omega, by omega, by simp only [List.length_cons]; omega, hk⟩
              rw [List.drop_drop, List.drop_drop, Nat.add_comm 1, List.drop_succ_cons]
theorem plain_drop {ls : List (List UInt8)} (h : Plain ls) (j : Nat) : Plain (ls.drop j) := fun x hx => h x (List.mem_of_mem_drop hx)
theorem mark_nxt (p : Nat) (r : List (List UInt8)) : nxt p (markT :: r) = .ok (markT.dropLast, r) := rfl
theorem mark_cmd : cmdP markT.dropLast = none := by decide +kernel
theorem mark_sep (p : Nat) (r : List (List UInt8)) : sepP p (markT :: r) = .error (p + 1, 3) := by
  unfold sepP
  rw [mark_nxt]
  rfl
theorem mark_hk (k p : Nat) (r : List (List UInt8)) : hkK k p (markT :: r) = .error (p + 1, 3) ∧ hkP k p (markT :: r) = .error (p + 1, 3) := by
  unfold hkK hkP
  rw [mark_nxt]
  dsimp only
  rw [mark_cmd]
  exact ⟨rfl, rfl⟩
theorem hk_both {k p : Nat} {ls : List (List UInt8)} (hP : Plain ls) (hk : k ≤ 4096) : hkP k p ls = hkK k p ls ∨ ∃ h p1 r, hkK k p ls = .ok (h, p1, markT :: r) ∧ hkP k p ls = .error (p1 + 1, 3) := by
  unfold hkP hkK
  cases hn : nxt p ls with
  | error e => left; rfl
  | ok z =>
    obtain ⟨s, r⟩ := z
    dsimp only
    have hls := nxt_ok hn
    subst hls
    have hPr : Plain r := fun x hx => hP x (by simp [hx])
    cases hc : cmdP s with
    | none => left; rfl
    | some z =>
      obtain ⟨A, AN, B, BN⟩ := z
      dsimp only
      by_cases hk2 : k = 4096
      · left
        rw [if_pos (by omega), if_pos hk2]
      · rw [if_neg (by omega), if_neg hk2]
        have hr := cmd_right hc
        rcases @side_both [60, 32] 45 AN.toNat (p + 1) r hPr with h1 | ⟨l, q, r', h1, h2⟩
        · rw [h1]
          cases hs : sdC [60, 32] 45 AN.toNat (p + 1) r with
          | error e => left; rfl
          | ok z =>
            obtain ⟨l1, p1, r1⟩ := z
            dsimp only
            obtain ⟨j, b1, _, _⟩ := sdC_drop hs
            have hP1 : Plain r1 := by rw [b1]; exact plain_drop hPr j
            cases hp : (if 0 < AN ∧ 0 < BN then sepP p1 r1 else Except.ok (p1, r1)) with
            | error e => left; rfl
            | ok z =>
              obtain ⟨p2, r2⟩ := z
              dsimp only
              have hP2 : Plain r2 := (by
                split at hp
                · obtain ⟨c1, _, _⟩ := sepP_drop hp
                  rw [c1]
                  exact plain_drop hP1 1
                · cases hp
                  exact hP1)
              rcases @side_both [62, 32] 43 BN.toNat p2 r2 hP2 with h3 | ⟨l, q, r', h3, h4⟩
              · left
                rw [h3]
                cases sdC [62, 32] 43 BN.toNat p2 r2 <;> rfl
              · right
                rw [h3, h4]
                exact ⟨_, _, _, rfl, rfl⟩
        · rw [h1, h2]
          dsimp only
          by_cases hb : 0 < AN ∧ 0 < BN
          · left
            rw [if_pos hb, mark_sep]
          · rw [if_neg hb]
            dsimp only
            have hBN : BN.toNat = 0 := (by
              have hA : AN.toNat ≠ 0 := (by
                intro h0
                rw [h0] at h2
                cases h2)
              omega)
            rw [hBN, sdC_zero]
            right
            exact ⟨_, _, _, rfl, rfl⟩
theorem hks_both (f : Nat) : ∀ {k p : Nat} {ls : List (List UInt8)}, Plain ls → ls.length ≤ f → k ≤ 4096 → hksP f k p ls = hksK f k p ls := by
  induction f with
  | zero => intros; rfl
  | succ f ih =>
    intro k p ls hP hf hk
    simp only [hksP, hksK]
    by_cases h0 : ls = []
    · rw [if_pos h0, if_pos h0]
    · rw [if_neg h0, if_neg h0]
      rcases @hk_both k p ls hP hk with h | ⟨h, p1, r, h1, h2⟩
      · rw [h]
        cases hc : hkK k p ls with
        | error e => rfl
        | ok z =>
          obtain ⟨h', p1, r⟩ := z
          obtain ⟨j, b1, b2, b3, b4, b5⟩ := hkK_drop hc
          dsimp only
          rw [@ih (k + 1) p1 r (by rw [b1]; exact plain_drop hP j) (by rw [b1, List.length_drop]; omega) (by omega)]
          cases hksK f (k + 1) p1 r <;> rfl
      · rw [h1, h2]
        dsimp only
        obtain ⟨j, b1, b2, b3, b4, b5⟩ := hkK_drop h1
        have hl : (markT :: r).length ≤ f := by rw [b1, List.length_drop]; omega
        cases f with
        | zero => simp at hl
        | succ f =>
          simp only [hksK]
          rw [if_neg (by simp), (mark_hk (k + 1) p1 r).1]
/-- a text as the code reads it -/
theorem prs_code (t : List UInt8) : prsT t = if 1048576 < t.length then .error (0, 9) else hksK (splitL t).length 0 0 (splitL t) := by
  unfold prsT
  split
  · rfl
  · exact hks_both _ (split_plain t) (Nat.le_refl _) (by omega)
end Go.Proofs.YtlgipdmjannidaaGreatDoor

/- The code's reader, walked: the line between, the end of a side, a side. -/
set_option maxRecDepth 20000
namespace Go.Proofs.YtlgipdmjannidaaGreatDoor
open Go.RowKit
attribute [local go_sem] ByteArray.extract_mk no_at

/-- all below B but the reader's block is as it was -/
structure Fr (B R : Nat) (w w' : World) : Prop where
  os : w'.os = w.os
  tape : w'.tape = w.tape
  output : w'.output = w.output
  size : w.heap.size ≤ w'.heap.size
  block : ∀ k, k < B → k ≠ R → w'.heap[k]? = w.heap[k]?
theorem Fr.refl (B R : Nat) (w : World) : Fr B R w w := ⟨rfl, rfl, rfl, Nat.le_refl _, fun _ _ _ => rfl⟩
theorem Fr.trans {B R : Nat} {w u v : World} (h : Fr B R w u) (h' : Fr B R u v) : Fr B R w v := ⟨h'.os.trans h.os, h'.tape.trans h.tape, h'.output.trans h.output, Nat.le_trans h.size h'.size, fun k h1 h2 => (h'.block k h1 h2).trans (h.block k h1 h2)⟩
theorem Fr.of {B R : Nat} {w u : World} (h : w.grownBy u (some R)) (hB : B ≤ w.heap.size) : Fr B R w u := ⟨h.os, h.tape, h.output, h.size, fun k h1 h2 => h.block k (Nat.lt_of_lt_of_le h1 hB) (fun e => h2 (Option.some.inj e))⟩
theorem Fr.own {B R : Nat} {w u : World} {g : Option Nat} (h : w.grownBy u g) (hB : B ≤ w.heap.size) (hg : ∀ j, g = some j → B ≤ j) : Fr B R w u := ⟨h.os, h.tape, h.output, h.size, fun k h1 _ => h.block k (Nat.lt_of_lt_of_le h1 hB) (fun e => by have := hg k e.symm; omega)⟩
theorem Fr.low {B R : Nat} {w u : World} (h : Below w.heap.size w u) (hB : B ≤ w.heap.size) : Fr B R w u := Fr.of (low_grown h _) hB
theorem Fr.grown {R : Nat} {w u : World} (h : Fr w.heap.size R w u) : w.grownBy u (some R) := ⟨h.os, h.tape, h.output, h.size, fun k h1 h2 => h.block k h1 (fun e => h2 (by rw [e]))⟩
end Go.Proofs.YtlgipdmjannidaaGreatDoor

/- The code's reader, walked: the end of a side. -/
set_option maxRecDepth 20000
namespace Go.Proofs.YtlgipdmjannidaaGreatDoor
open Go.RowKit
attribute [local go_sem] ByteArray.extract_mk no_at

theorem pkM_at {L : List (List UInt8)} (hP : Plain L) {p : Nat} (h : p < L.length) : pkM (L.drop p) = (L[p] == markT) := by
  rw [List.drop_eq_getElem_cons h]
  unfold pkM
  rw [Bool.eq_iff_iff, beq_iff_eq]
  constructor
  · intro q
    exact mark_eq (hP _ (List.getElem_mem h)) q
  · intro q
    rw [q]
    show markT.isPrefixOf markT = true
    decide
end Go.Proofs.YtlgipdmjannidaaGreatDoor

/- The code's reader, walked: a side of a hunk. -/
set_option maxRecDepth 20000
namespace Go.Proofs.YtlgipdmjannidaaGreatDoor
open Go.RowKit
attribute [local go_sem] ByteArray.extract_mk no_at

theorem owns_fr {w u : World} {B R : Nat} {e : TypeId} {s : Nat} {v : Value} {n : Nat} {xs : List Value} (h : w.ownsRow B e s v n xs) (hg : w.grownBy u (some R)) (hR : R < B) : u.ownsRow B e s v n xs := by
  refine ⟨h.1, ?_⟩
  rcases h.2 with q | ⟨g, cap, cur, rfl, q2, q3, q4⟩
  · exact .inl q
  · refine .inr ⟨g, cap, cur, rfl, q2, ?_, q4⟩
    rw [hg.block g (Array.getElem?_eq_some_iff.1 q3).1 (fun e => by cases e; omega)]
    exact q3
/-- the last text of a row of one's own can be written -/
theorem owns_last {w : World} {B : Nat} {v : Value} {l : List Mk} {m : Mk} (h : w.ownsRow B 78 2 v (l.length + 1) (mkcells (l ++ [m]))) : ∃ g cap, v = .slice (some ⟨g, 0, none⟩) (l.length + 1) cap ∧ B ≤ g ∧ g < w.heap.size ∧ w.cell? ⟨g, l.length * 2 + 1, none⟩ = some (.string ⟨m.tx.toArray⟩) ∧ w.frozen? ⟨g, l.length * 2 + 1, none⟩ = false ∧
    ∀ (u : World) (t : List UInt8), u.heap[g]? = w.heap[g]? → (u.setCell ⟨g, l.length * 2 + 1, none⟩ (.string ⟨t.toArray⟩)).ownsRow B 78 2 v (l.length + 1) (mkcells (l ++ [⟨m.sg, t⟩])) := by
  rcases h.2 with ⟨_, q⟩ | ⟨g, cap, cur, rfl, q2, q3, q4, q5, q6, q7⟩
  · omega
  · have hmk : ∀ x : Mk, mkcells (l ++ [x]) = mkcells l ++ [.int .u8 x.sg, .string ⟨x.tx.toArray⟩] := fun x => by rw [mkcells_append]; rfl
    have hl := mkcells_length l
    have hcur : cur.toList.take ((l.length + 1) * 2) = mkcells l ++ [.int .u8 m.sg, .string ⟨m.tx.toArray⟩] := by rw [q7, hmk]
    have hcell : cur[l.length * 2 + 1]? = some (.string ⟨m.tx.toArray⟩) := by
      have h1 : (cur.toList.take ((l.length + 1) * 2))[l.length * 2 + 1]? = some (.string ⟨m.tx.toArray⟩) := by
        rw [hcur, List.getElem?_append_right (by omega), hl]
        have : l.length * 2 + 1 - l.length * 2 = 1 := by omega
        rw [this]
        rfl
      rw [List.getElem?_take_of_lt (by omega)] at h1
      simpa using h1
    refine ⟨g, cap, rfl, q2, (Array.getElem?_eq_some_iff.1 q3).1, ?_, Lib.frozen_of_heap q3 _, ?_⟩
    · rw [Lib.cell_of_heap q3]
      exact hcell
    · intro u t hu
      have hs := heap_setCell_same u g (l.length * 2 + 1) cur _ (.string ⟨t.toArray⟩) (hu.trans q3)
      refine ⟨by rw [mkcells_length]; simp, .inr ⟨g, cap, _, rfl, q2, hs, q4, q5, by simpa using q6, ?_⟩⟩
      rw [hmk]
      have e1 : (cur.setIfInBounds (l.length * 2 + 1) (.string ⟨t.toArray⟩)).toList = cur.toList.set (l.length * 2 + 1) (.string ⟨t.toArray⟩) := by simp
      rw [e1, List.take_set, hcur, List.set_append_right _ _ (by omega), hl]
      have : l.length * 2 + 1 - l.length * 2 = 1 := by omega
      rw [this]
      rfl
theorem pre_feed {sg s : List UInt8} (h : ∀ c ∈ sg, c ≠ 10) : Lib.hasPrefix (s ++ [10]) sg = sg.isPrefixOf s := by
  unfold Lib.hasPrefix
  rw [Bool.eq_iff_iff, List.isPrefixOf_iff_prefix, List.isPrefixOf_iff_prefix]
  constructor
  · intro hp
    have hp2 := List.prefix_iff_eq_take.1 hp
    by_cases hl : sg.length ≤ s.length
    · rw [List.take_append_of_le_length hl] at hp2
      exact List.prefix_iff_eq_take.2 hp2
    · exfalso
      have h3 : (s ++ [10]).take sg.length = s ++ [10] := List.take_of_length_le (by simp; omega)
      rw [h3] at hp2
      exact h 10 (by rw [hp2]; simp) rfl
  · rintro ⟨t, rfl⟩
    exact ⟨t ++ [10], by simp⟩
theorem trim_feed {sg s : List UInt8} (h : ∀ c ∈ sg, c ≠ 10) (hp : sg.isPrefixOf s = true) : Lib.trimPrefix (s ++ [10]) sg = s.drop sg.length ++ [10] := by
  unfold Lib.trimPrefix
  rw [pre_feed h, if_pos hp, List.drop_append_of_le_length]
  exact (List.isPrefixOf_iff_prefix.1 hp).length_le
def thenL (m : List Mk) (X : Except (Nat × Int) (List Mk × Nat × List (List UInt8))) : Except (Nat × Int) (List Mk × Nat × List (List UInt8)) :=
  match X with
  | .error e => .error e
  | .ok (l, p1, r) => .ok (m ++ l, p1, r)
theorem thenL_nil (X : Except (Nat × Int) (List Mk × Nat × List (List UInt8))) : thenL [] X = X := by
  unfold thenL
  rcases X with e | ⟨l, p, r⟩ <;> rfl
theorem rdL_succ {sg : List UInt8} {S : Int} {n p : Nat} {ls r : List (List UInt8)} {s : List UInt8} (h : nxt p ls = .ok (s, r)) (m : List Mk) : thenL m (rdL sg S (n + 1) p ls) = if sg.isPrefixOf s = true then thenL (m ++ [⟨S, s.drop sg.length ++ [10]⟩]) (rdL sg S n (p + 1) r) else .error (p + 1, 3) := by
  simp only [rdL]
  rw [h]
  dsimp only
  split
  · cases rdL sg S n (p + 1) r with
    | error e => rfl
    | ok z => simp [thenL]
  · rfl
theorem nxt_rest {p : Nat} {L r : List (List UInt8)} {s : List UInt8} (h : nxt p (L.drop p) = .ok (s, r)) : r = L.drop (p + 1) ∧ p < L.length ∧ ∃ hp : p < L.length, L[p] = s ++ [10] := by
  have h1 := nxt_ok h
  have hp : p < L.length := by
    by_cases h2 : p < L.length
    · exact h2
    · rw [List.drop_eq_nil_of_le (by omega)] at h1
      cases h1
  have h3 := List.drop_eq_getElem_cons hp
  rw [h3] at h1
  injection h1 with h4 h5
  exact ⟨h5.symm, hp, hp, h4⟩
end Go.Proofs.YtlgipdmjannidaaGreatDoor
