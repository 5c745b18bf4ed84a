/-
  Texts that belong together, joined: NoLen, NoWs, NcW, PtL, NcL, CwE, CwF, CwG, HuC2, CwH, CwI, CrA, CxR2, CrB, CrC, UnMath, UnM2.
-/
import Derived.Test.YtgcccpmcbjfaaaaDoorPartA8
import Derived.Test.YtgcccpmcbjfaaaaDoorPartA6
import Derived.Shelf.Strings.BuilderK
import Derived.Test.YtgcccpmcbjfaaaaDoorProg
import Derived.Test.YtgcccpmcbjfaaaaDoorPartA5
import Derived.Lib.AppendIntMem
import Derived.Lib.FrozenHead2
import Derived.Test.YtgcccpmcbjfaaaaDoorPartA7
import Derived.Test.YtgcccpmcbjfaaaaDoorPartA4

/- How long the normal form of a script is; plain mathematics. -/
namespace Go.Proofs.YtgcccpmcbjfaaaaDoor

theorem cmd_len {c : Ch} (h : numB c = true) : (cmdT c).length ≤ 100 := by
  rw [numB_iff] at h
  have r1 := rng_short c.A c.AN h.1.1 (by omega) h.2.1.1 (by omega)
  have r2 := rng_short c.B c.BN h.2.2.1.1 (by omega) h.2.2.2.1.1 (by omega)
  have r3 := itoa_short c.A (by omega) (by omega)
  have r4 := itoa_short c.B (by omega) (by omega)
  unfold cmdT
  split
  · simp only [List.length_append, List.length_cons]; omega
  · split
    · simp only [List.length_append, List.length_cons]; omega
    · simp only [List.length_append, List.length_cons]; omega
theorem flat_drop {a : List (List UInt8)} {p A AN : Int} (hp : 0 ≤ p) (hA : p ≤ A) (hN : 0 ≤ AN) : (cut a A AN).flatten.length + (a.drop (A + AN).toNat).flatten.length ≤ (a.drop p.toNat).flatten.length := by
  have e1 : a.drop p.toNat = (a.drop p.toNat).take (A - p).toNat ++ a.drop A.toNat := by
    have h := (List.take_append_drop (A - p).toNat (a.drop p.toNat)).symm
    rw [List.drop_drop] at h
    have e : p.toNat + (A - p).toNat = A.toNat := by omega
    rw [e] at h
    exact h
  have e2 : a.drop A.toNat = cut a A AN ++ a.drop (A + AN).toNat := by
    have h := (List.take_append_drop AN.toNat (a.drop A.toNat)).symm
    rw [List.drop_drop] at h
    have e : A.toNat + AN.toNat = (A + AN).toNat := by omega
    rw [e] at h
    exact h
  rw [e1, e2]
  simp only [List.flatten_append, List.length_append]
  omega
theorem cut_le (a : List (List UInt8)) (p n : Int) : (cut a p n).length ≤ n.toNat := by
  unfold cut
  rw [List.length_take]
  omega
theorem chg_len {a b : List (List UInt8)} {c : Ch} (h : numB c = true) : (chgL a b c).flatten.length ≤ 105 + 31 * (c.AN.toNat + c.BN.toNat) + (cut a c.A c.AN).flatten.length + (cut b c.B c.BN).flatten.length := by
  have h1 := cmd_len h
  have h2 := lns_len [60, 32] (cut a c.A c.AN)
  have h3 := lns_len [62, 32] (cut b c.B c.BN)
  have h4 := cut_le a c.A c.AN
  have h5 := cut_le b c.B c.BN
  have h6 : (sepL c).flatten.length ≤ 4 := by
    unfold sepL
    split <;> simp
  simp only [List.length_cons, List.length_nil] at h2 h3
  simp only [chgL, List.flatten_cons, List.flatten_append, List.length_append, List.length_cons, List.length_nil]
  omega
theorem prt_len_at {a b : List (List UInt8)} {n m : Int} (l : List Ch) : ∀ {f : Bool} {p q : Int}, 0 ≤ p → 0 ≤ q → Right f p q n m l → (prtT l a b).length ≤ 105 * l.length + 31 * ((n - p).toNat + (m - q).toNat) + (a.drop p.toNat).flatten.length + (b.drop q.toNat).flatten.length := by
  induction l with
  | nil =>
    intro f p q _ _ _
    simp [prtT, prtL]
  | cons c l ih =>
    intro f p q hp hq h
    obtain ⟨⟨h1, h2, h3, _⟩, h5⟩ := h
    have hn := (numB_iff c).1 h1
    have hle := h5.le
    have g := ih (by omega) (by omega) h5
    have g1 := @chg_len a b c h1
    have g2 := @flat_drop a p c.A c.AN hp h3 hn.2.1.1
    have g3 := @flat_drop b q c.B c.BN hq (by omega) hn.2.2.2.1.1
    have e : prtT (c :: l) a b = (chgL a b c).flatten ++ prtT l a b := by simp [prtT, prtL]
    rw [e, List.length_append, List.length_cons]
    omega
/-- what is written of a right script -/
theorem prt_len {a b : List (List UInt8)} {l : List Ch} (h : Script l a.length b.length) : (prtT l a b).length ≤ 105 * l.length + 31 * (a.length + b.length) + a.flatten.length + b.flatten.length := by
  have g := @prt_len_at a b a.length b.length l true 0 0 (by omega) (by omega) h.2.2
  simpa using g
end Go.Proofs.YtgcccpmcbjfaaaaDoor

/- The library's contracts on a strings.Builder's WriteString and on strings.HasSuffix, TrimSuffix and CutPrefix at this program: the program bears the bodies that they speak of. -/
namespace Go.Proofs
open Go.Shelf Go.RowKit
def Tryd.lays166_ren : Go.Shelf.Ren := ⟨fun | 166 => 10 | 240 => 21 | 276 => 38 | n => n, fun | 0 => 0 | 3 => 3 | 4 => 4 | 5 => 5 | 9 => 9 | 20 => 20 | 37 => 34 | 70 => 33 | 72 => 36 | 75 => 38 | 80 => 46 | 164 => 65 | n => n, fun | n => n⟩
theorem Tryd.lays166 : Go.Proofs.Lays.n166 Tryd.prog Tryd.lays166_ren := {
  mixed := by kernel_rfl
  f166 := Tryd.func10.trans (congrArg some (by kernel_rfl))
  f240 := Tryd.func21.trans (congrArg some (by kernel_rfl))
  f276 := Tryd.func38.trans (congrArg some (by kernel_rfl))
  t0 := Tryd.underlying0
  a0 := Tryd.isAgg0
  z0 := Tryd.sizeOf0
  v0 := Tryd.zeroValue0
  t3 := Tryd.underlying3
  a3 := Tryd.isAgg3
  z3 := Tryd.sizeOf3
  v3 := Tryd.zeroValue3
  t4 := Tryd.underlying4
  a4 := Tryd.isAgg4
  z4 := Tryd.sizeOf4
  v4 := Tryd.zeroValue4
  t9 := Tryd.underlying9
  a9 := Tryd.isAgg9
  z9 := Tryd.sizeOf9
  v9 := Tryd.zeroValue9
  t20 := Tryd.underlying20
  a20 := Tryd.isAgg20
  z20 := Tryd.sizeOf20
  v20 := Tryd.zeroValue20
  t37 := Tryd.underlying34
  a37 := Tryd.isAgg34
  z37 := Tryd.sizeOf34
  v37 := Tryd.zeroValue34
  t70 := Tryd.underlying33
  a70 := Tryd.isAgg33
  z70 := Tryd.sizeOf33
  v70 := Tryd.zeroValue33
  t72 := Tryd.underlying36
  a72 := Tryd.isAgg36
  z72 := Tryd.sizeOf36
  v72 := Tryd.zeroValue36
  t75 := Tryd.underlying38
  a75 := Tryd.isAgg38
  z75 := Tryd.sizeOf38
  v75 := Tryd.zeroValue38
  t164 := Tryd.underlying65
  a164 := Tryd.isAgg65
  z164 := Tryd.sizeOf65
  v164 := Tryd.zeroValue65 }
theorem Tryd.Builder_Extra_166 : Builder.Extra Tryd.prog Tryd.lays166_ren := {
  sizeBuilder := by kernel_rfl
  liesBuilder := by kernel_rfl
  t5 := Tryd.underlying5
  a5 := Tryd.isAgg5
  z5 := Tryd.sizeOf5
  v5 := Tryd.zeroValue5
  infoByte := by kernel_rfl
  cellsByte := by kernel_rfl
  sizeByte := by kernel_rfl
  neB5 := by decide }
theorem Tryd.WriteString_h (B b : Nat) (bs : List Value) (s : ByteArray) (w : World) (h : Lib.IsBuilderF 36 5 B b bs w) (hlen : bs.length + s.size ≤ 140737488355328) (hBw : B ≤ w.heap.size) :
    Calls Tryd.prog 10 #[.pointer (some ⟨b, 0, none⟩), .string s] w fun e w' => e = .returned (.tuple #[.int .i64 s.size, .nilIface]) ∧ (Lib.BuilderAtF 36 5 B b (.pointer (some ⟨b, 0, none⟩)) (bs ++ Lib.strCells s) w' ∧ Below B w w' ∧ Lib.OthersKept 5 (some b) w w') :=
  Any.Builder_WriteString_k Tryd.lays166 Tryd.Builder_Extra_166 B b bs s w h hlen hBw
end Go.Proofs

/- The code's small functions of layer 12's Print, walked: numbers, ranges, letters, lines that are written. -/
namespace Go.Proofs.YtgcccpmcbjfaaaaDoor
open Go.RowKit

/-- the table of powers of ten, in every later world -/
def Tab10 (w : World) : Prop := ∀ u : World, Below w.heap.size w u → Lib.TabIs Tryd.prog u "internal/strconv.uint64pow10" .u64 Lib.pow10Tab
theorem Tab10.on {w u : World} (h : Tab10 w) (hb : Below w.heap.size w u) : Tab10 u := fun v hv => h v (hb.trans (hv.mono hb.size))
set_option maxHeartbeats 1000000 in
theorem nText_f (n : Int) (h0 : -9223372036854775808 ≤ n) (h1 : n ≤ 9223372036854775807) (w : World) (HT : Hid (Tab10 w)) :
    Calls Tryd.prog 42 #[.int .i64 n] w fun e w' => e = .returned (.string ⟨(Lib.itoa n).toArray⟩) ∧ Below w.heap.size w w' := by
  go_enter Tryd.func42, Tryd.ntmps42
  go_wp2_with fail
  refine (Tryd.strconv_Itoa n h0 h1 _ (HT.out _ (Below.refl _ _))).mono ?_
  rintro e w1 ⟨rfl, k, os, rfl⟩
  go_wp2
  go_ret
  exact ⟨rfl, Lib.below_grow w.heap.size w (Nat.le_refl _) k os⟩
/-- a range as the code writes it -/
def rgx (A N : Int) : List UInt8 := if N ≤ 1 then Lib.itoa A else Lib.itoa A ++ 44 :: Lib.itoa (A + N - 1)
theorem rgx_len {A N : Int} (h0 : 0 ≤ A) (h1 : A ≤ 4611686018427387904) (h2 : 0 ≤ N) (h3 : N ≤ 4611686018427387900) : (rgx A N).length ≤ 43 := by
  have l1 := itoa_short A (by omega) (by omega)
  have l2 := itoa_short (A + N - 1) (by omega) (by omega)
  unfold rgx
  split
  · omega
  · simp only [List.length_append, List.length_cons]
    omega
/-- what a hunk does, as the code writes it -/
def ltrT (AN BN : Int) : List UInt8 := if AN = 0 then [97] else if BN = 0 then [100] else [99]
theorem ltr_len (AN BN : Int) : (ltrT AN BN).length = 1 := by
  unfold ltrT
  split
  · rfl
  · split <;> rfl
end Go.Proofs.YtgcccpmcbjfaaaaDoor

/- A line as it stands in a patch (package patchtext), walked. -/
namespace Go.Proofs.YtgcccpmcbjfaaaaDoor
open Go.RowKit

theorem suf_feed (s : List UInt8) : Lib.hasSuffix s [10] = fdB s := by
  unfold Lib.hasSuffix fdB
  rw [Bool.eq_iff_iff, List.isSuffixOf_iff_suffix, beq_iff_eq]
  constructor
  · rintro ⟨t, rfl⟩
    simp
  · intro h
    obtain ⟨t, rfl⟩ := List.getLast?_eq_some_iff.1 h
    exact ⟨t, rfl⟩
/-- a line of a file as it stands behind its sign -/
def plT (s : List UInt8) : List UInt8 := if fdB s = true then s else s ++ 10 :: markT
theorem pl_lines (ah s : List UInt8) : (lnL ah s).flatten = ah ++ plT s := by
  unfold lnL plT
  split <;> simp
set_option maxHeartbeats 1000000 in
theorem pline_f (s : List UInt8) (w : World) (hs : s.length ≤ 1099511627776) (Z : List UInt8) (HZ : Hid (plT s = Z)) :
    Calls Tryd.prog 25 #[.string ⟨s.toArray⟩] w fun e w' => e = .returned (.string ⟨Z.toArray⟩) ∧ w' = w := by
  cases hf : fdB s with
  | true =>
    have HE : Hid (s = Z) := (by have h := HZ.out; unfold plT at h; rw [if_pos hf] at h; exact h)
    clear HZ
    go_enter Tryd.func25, Tryd.ntmps25
    go_wp2_with fail
    refine (Tryd.strings_HasSuffix ⟨s.toArray⟩ ⟨#[10]⟩ w (by show s.length ≤ _; omega)).mono ?_
    rintro e w2 ⟨rfl, rfl⟩
    have e1 : Lib.hasSuffix (⟨s.toArray⟩ : ByteArray).data.toList (⟨#[10]⟩ : ByteArray).data.toList = true := (suf_feed s).trans hf
    rw [e1]
    clear e1 hf
    go_wp2
    go_ret
    exact ⟨by rw [← HE.out]; rfl, rfl⟩
  | false =>
    have HE : Hid (s ++ 10 :: markT = Z) := (by have h := HZ.out; unfold plT at h; rw [if_neg (by rw [hf]; decide)] at h; exact h)
    have q1 := add_fits (x := s) (y := 10 :: markT) (by unfold Fits; simp only [markT, List.length_cons, List.length_nil]; omega) Tryd.prog
    rw [HE.out] at q1
    unfold markT at q1
    have q2 := add_fits (x := s) (y := [10]) (by unfold Fits; simp only [List.length_cons, List.length_nil]; omega) Tryd.prog
    have q3 := add_fits (x := s ++ [10]) (y := markT) (by unfold Fits; simp only [markT, List.length_append, List.length_cons, List.length_nil]; omega) Tryd.prog
    have q4 : s ++ [10] ++ markT = Z := (by rw [← HE.out]; simp)
    rw [q4] at q3
    unfold markT at q3
    clear HZ q4
    go_enter Tryd.func25, Tryd.ntmps25
    go_wp2_with fail
    refine (Tryd.strings_HasSuffix ⟨s.toArray⟩ ⟨#[10]⟩ w (by show s.length ≤ _; omega)).mono ?_
    rintro e w2 ⟨rfl, rfl⟩
    have e1 : Lib.hasSuffix (⟨s.toArray⟩ : ByteArray).data.toList (⟨#[10]⟩ : ByteArray).data.toList = false := (suf_feed s).trans hf
    rw [e1]
    clear e1 hf
    go_wp2
    go_ret
    exact ⟨rfl, rfl⟩
end Go.Proofs.YtgcccpmcbjfaaaaDoor

/- The code's writeLines of layer 12, walked: lines behind a sign are written into a builder. -/
namespace Go.Proofs.YtgcccpmcbjfaaaaDoor
open Go.RowKit

theorem bcells_len (l : List UInt8) : (Lib.byteCells l).length = l.length := by simp [Lib.byteCells]
/-- a builder stays as it is where all ahead stays -/
theorem isF_low {T e : TypeId} {B b : Nat} {bs : List Value} {w w' : World} (h : Lib.IsBuilderF T e B b bs w) (hb : Below w.heap.size w w') : Lib.IsBuilderF T e B b bs w' := by
  have key : ∀ p, Lib.BuilderAtF T e B b p bs w → Lib.BuilderAtF T e B b p bs w' := by
    rintro p ⟨h1, v, h2, h3, h4⟩
    refine ⟨h1, v, (hb.block b (Array.getElem?_eq_some_iff.1 h2).1).trans h2, ⟨h3.1, ?_⟩, h4⟩
    rcases h3.2 with q | ⟨g, cap, cur, fz, q1, q2, q3, q4⟩
    · exact .inl q
    · exact .inr ⟨g, cap, cur, fz, q1, q2, (hb.block g (Array.getElem?_eq_some_iff.1 q3).1).trans q3, q4⟩
  rcases h with h | h
  · exact .inl (key _ h)
  · exact .inr (key _ h)
theorem isF_fresh (w : World) : Lib.IsBuilderF 36 5 w.heap.size w.heap.size (Lib.byteCells []) (w.alloc (.cells #[.pointer none, .slice none 0 0] 36)) :=
  .inl ⟨Nat.le_refl _, .slice none 0 0, heap_alloc_new w _, ⟨rfl, .inl ⟨rfl, rfl⟩⟩, by simp [Value.ownBlock]⟩
/-- a row of texts of one's own stays where a builder is written -/
theorem owns_others {w u : World} {base b : Nat} {v : Value} {n : Nat} {xs : List Value} (h : w.ownsRow base 9 1 v n xs) (hk : Lib.OthersKept 5 (some b) w u) (hb : ∀ g, v.ownBlock = some g → g ≠ b) : u.ownsRow base 9 1 v n xs := by
  refine ⟨h.1, ?_⟩
  rcases h.2 with q | ⟨g, cap, cur, rfl, q2, q3, q4⟩
  · exact .inl q
  · refine .inr ⟨g, cap, cur, rfl, q2, hk g _ q3 (fun e => hb g rfl (Option.some.inj e)) (fun c fz e => ?_), q4⟩
    cases e
theorem hx_others {w u : World} {b B : Nat} {h : Hk} {v : Value} (q : Hx w B h v) (hk : Lib.OthersKept 5 (some b) w u) (hb : B ≠ b) : Hx u B h v :=
  hk B _ q (fun e => hb (Option.some.inj e)) (fun c fz e => by cases e)
end Go.Proofs.YtgcccpmcbjfaaaaDoor

/- The code's page of layer 15, walked: rows, lines, ranges; the signs that are shown. -/
namespace Go.Proofs.YtgcccpmcbjfaaaaDoor
open Go.RowKit Go.Proofs.YtgcccpmcbjfaaaaDoor

theorem cell_byte {c : Int} (h0 : 0 ≤ c) (h1 : c < 256) : Lib.byteCells [UInt8.ofNat c.toNat] = [.int .u8 c] := by
  have : ((UInt8.ofNat c.toNat).toNat : Int) = c := by
    rw [UInt8.toNat_ofNat']
    omega
  simp only [Lib.byteCells, List.map_cons, List.map_nil, this]
end Go.Proofs.YtgcccpmcbjfaaaaDoor

/- The code's shownSigns of layer 15, walked. -/
namespace Go.Proofs.YtgcccpmcbjfaaaaDoor
open Go.RowKit

def ucells (l : List Int) : List Value := l.map fun n => .int .u8 n
theorem ucells_length (l : List Int) : (ucells l).length = l.length := by simp [ucells]
theorem ucells_append (a b : List Int) : ucells (a ++ b) = ucells a ++ ucells b := by simp [ucells]
theorem ucells_one (l : List Int) : ∀ u ∈ ucells l, u.oneCell' = true := by
  intro u hu
  simp only [ucells, List.mem_map] at hu
  obtain ⟨n, _, rfl⟩ := hu
  rfl
theorem infoU : (Tryd.prog.info? 5).map (fun i => (i.zero, i.size, i.bytes)) = some (some (.int .u8 0), 1, 1) := by kernel_rfl
theorem u_row (w : World) (c : Int) : Holds (w.alloc (.cells #[.int .u8 c] 5)) (.slice (some ⟨w.heap.size, 0, none⟩) 1 1) 1 (ucells [c]) := new_holds w #[.int .u8 c] 5 1 1 (by decide)
def lenW : Value → Nat
  | .slice _ n _ => n
  | _ => 0
theorem mix_len (c : List Mk) : (mixM c).length = c.length := by simp [mixM]
theorem mix_at (c : List Mk) (mx : Bool) (HM : (hasM 45 c && hasM 43 c) = mx) (k : Nat) (hk : k < c.length) : (mixM c).drop k = (if mx = true then 33 else c[k].sg) :: (mixM c).drop (k + 1) := by
  have hl : k < (mixM c).length := by rw [mix_len]; exact hk
  rw [List.drop_eq_getElem_cons hl]
  congr 1
  simp only [mixM, List.getElem_map, HM]
end Go.Proofs.YtgcccpmcbjfaaaaDoor

/- The code's side of a page of layer 15, walked. -/
namespace Go.Proofs.YtgcccpmcbjfaaaaDoor
open Go.RowKit Go.Proofs.YtgcccpmcbjfaaaaDoor

theorem cw_u8 {u : World} {a : Addr} {z : Int} (h : u.cell? a = some (.int .u8 z)) {op : Oper} (x : Operand) (ho : op.op = .load 5 x) {ev : Operand → Value} (hx : ev x = .pointer (some a)) :
    (execOp ev op).run Tryd.prog u = .ok (.value (.int .u8 z)) u := by
  simp only [execOp, ho, hx]
  go_simp
theorem cw_str {u : World} {a : Addr} {s : ByteArray} (h : u.cell? a = some (.string s)) {op : Oper} (x : Operand) (ho : op.op = .load 9 x) {ev : Operand → Value} (hx : ev x = .pointer (some a)) :
    (execOp ev op).run Tryd.prog u = .ok (.value (.string s)) u := by
  simp only [execOp, ho, hx]
  go_simp
theorem cw_ix {u : World} {b off n c i : Nat} (hi : i < n) {op : Oper} (x y : Operand) (ho : op.op = .indexAddr 34 x y) {ev : Operand → Value} (hx : ev x = .slice (some ⟨b, off, none⟩) n c) (hy : ev y = .int .i64 (i : Int)) :
    (execOp ev op).run Tryd.prog u = .ok (.value (.pointer (some ⟨b, off + i, none⟩))) u := by
  have i1 : 0 ≤ (i : Int) := by omega
  have i2 : (i : Int) < (n : Int) := by omega
  simp only [execOp, ho, hx, hy]
  go_simp
/-- what a slice of bytes holds, place by place -/
theorem hu_at {w : World} {ao : Option Addr} {n c : Nat} {l : List Int} (h : Holds w (.slice ao n c) n (ucells l)) (hl : l.length = n) (h0 : 0 < n) : ∃ b off, ao = some ⟨b, off, none⟩ ∧ ∀ k (hk : k < l.length), w.cell? ⟨b, off + k, none⟩ = some (.int .u8 l[k]) := by
  rcases h with ⟨_, h1, _⟩ | ⟨ad, c', h, _, hc⟩
  · omega
  · cases h
    have h1 := hc 0 _ (List.getElem?_eq_getElem (by rw [ucells_length]; omega))
    obtain ⟨b, off, rfl⟩ := addr_of h1
    refine ⟨b, off, rfl, fun k hk => ?_⟩
    have := hc k (.int .u8 l[k]) (by simp [ucells, hk])
    rw [add_none] at this
    exact this
theorem sidZ_drop (sg : Int) (l : List Mk) (sh : List Int) (k : Nat) (h : l.length = sh.length) (hk : k < l.length) : sidZ sg (l.drop k) (sh.drop k) = (if l[k].sg = 32 ∨ l[k].sg = sg then lnL [UInt8.ofNat (sh[k]'(by omega)).toNat, 32] l[k].tx else []) ++ sidZ sg (l.drop (k + 1)) (sh.drop (k + 1)) := by
  rw [List.drop_eq_getElem_cons hk, List.drop_eq_getElem_cons (show k < sh.length by omega)]
  rfl
end Go.Proofs.YtgcccpmcbjfaaaaDoor

/- The code's Check of layer 11, walked. -/
namespace Go.Proofs.YtgcccpmcbjfaaaaDoor
open Ln Go.RowKit

theorem rng_nm (h : Hk) : rngB h = (nmB h.A h.AN && nmB h.B h.BN) := by
  unfold rngB nmB
  cases nat31 h.A <;> cases nat31 h.AN <;> cases nat31 h.B <;> cases nat31 h.BN <;> cases decide (h.A = 0) <;> cases decide (0 < h.AN) <;> cases decide (h.B = 0) <;> cases decide (0 < h.BN) <;> rfl
theorem pk_mem {no : Int} {l : List Mk} {a : List UInt8} (h : a ∈ pkL no l) : ∃ m ∈ l, m.tx = a := by
  induction l with
  | nil => cases h
  | cons m l ih =>
    simp only [pkL] at h
    split at h
    · rcases List.mem_cons.1 h with rfl | h
      · exact ⟨m, by simp, rfl⟩
      · obtain ⟨x, hx, e⟩ := ih h
        exact ⟨x, by simp [hx], e⟩
    · obtain ⟨x, hx, e⟩ := ih h
      exact ⟨x, by simp [hx], e⟩
theorem chk_rng {h : Hk} (hq : rngB h = false) : chkH h = 2 := by
  unfold chkH
  rw [if_pos hq]
theorem chk_fld {h : Hk} (h1 : rngB h = true) (hq : fldB h.ls = false) : chkH h = 6 := by
  unfold chkH
  rw [if_neg (by rw [h1]; decide), if_pos hq]
theorem chk_cnt {h : Hk} (h1 : rngB h = true) (h2 : fldB h.ls = true) (hq : h.AN ≠ (oldL h).length ∨ h.BN ≠ (newL h).length) : chkH h = 120 := by
  unfold chkH
  rw [if_neg (by rw [h1]; decide), if_neg (by rw [h2]; decide), if_pos hq]
theorem all_chg {l : List Mk} (ha : allB l = true) : l.all (fun m => decide (m.sg = 32)) = !l.any chgB := by
  induction l with
  | nil => rfl
  | cons m l ih =>
    simp only [allB, List.all_cons, Bool.and_eq_true] at ha
    simp only [List.all_cons, List.any_cons]
    rw [ih ha.2]
    have hm := ha.1
    simp only [okS, Bool.or_eq_true, decide_eq_true_eq] at hm
    unfold chgB
    rcases hm with (hm | hm) | hm <;> rw [hm] <;> simp
theorem chk_end {h : Hk} (h1 : rngB h = true) (h2 : fldB h.ls = true) (h3 : h.AN = (oldL h).length) (h4 : h.BN = (newL h).length) {q : Bool} (hq : h.ls.any chgB = q) : chkH h = if q = true then 0 else 50 := by
  unfold chkH
  rw [if_neg (by rw [h1]; decide), if_neg (by rw [h2]; decide), if_neg (fun k => by rcases k with k | k <;> contradiction)]
  have ha : allB h.ls = true := by
    have := fld_code h.ls
    rw [h2] at this
    simp only [Bool.true_eq, Bool.and_eq_true] at this
    exact this.1.1
  rw [all_chg ha, hq]
  cases q <;> rfl
theorem any_strange (l : List Mk) : l.any (fun m => !okS m.sg) = !allB l := by
  induction l with
  | nil => rfl
  | cons m l ih =>
    simp only [List.any_cons, allB, List.all_cons, Bool.not_and] at ih ⊢
    rw [ih]
theorem hold_held {h : Hk} {v : Value} {W u : World} (hv : HMk W v h.ls) (hl : h.ls.length ≤ 1099511627776) {R : List (List UInt8)} (HR : Hid (oldL h = R)) (hL : Low W u) : Calls Tryd.prog 32 (#[hkV h v] ++ #[]) u fun e w' => ∃ x, e = .returned x ∧ Low W w' ∧ (HS w' x R ∧ Below u.heap.size u w') := by
  refine (hOld_f h v u (HMk.keep hv hL (Nat.le_refl _)) hl R HR).mono ?_
  rintro e w' ⟨x, rfl, hx, hB⟩
  exact ⟨_, rfl, hL.trans (hB.mono hL.size), hx, hB⟩
theorem hnew_held {h : Hk} {v : Value} {W u : World} (hv : HMk W v h.ls) (hl : h.ls.length ≤ 1099511627776) {R : List (List UInt8)} (HR : Hid (newL h = R)) (hL : Low W u) : Calls Tryd.prog 33 (#[hkV h v] ++ #[]) u fun e w' => ∃ x, e = .returned x ∧ Low W w' ∧ (HS w' x R ∧ Below u.heap.size u w') := by
  refine (hNew_f h v u (HMk.keep hv hL (Nat.le_refl _)) hl R HR).mono ?_
  rintro e w' ⟨x, rfl, hx, hB⟩
  exact ⟨_, rfl, hL.trans (hB.mono hL.size), hx, hB⟩

set_option maxRecDepth 10000 in
set_option maxHeartbeats 4000000 in
theorem hCheck_f (h : Hk) (v : Value) (w : World) (hv : HMk w v h.ls) (hl : h.ls.length ≤ 1099511627776) (htx : ∀ m ∈ h.ls, m.tx.length ≤ 1099511627776) (r : Int) (HR : Hid (chkH h = r)) : Calls Tryd.prog 20 #[hkV h v] w fun e w' => e = .returned (.int .i64 r) ∧ Below w.heap.size w w' := by
  obtain ⟨A, AN, B, BN, ls⟩ := h
  dsimp only at hv hl htx
  obtain ⟨lo, lc, rfl⟩ := HMk.form hv
  have hx := Hx.new w ⟨A, AN, B, BN, ls⟩ (.slice lo ls.length lc)
  have hBl : Below w.heap.size w (w.alloc (hkO ⟨A, AN, B, BN, ls⟩ (.slice lo ls.length lc))) := (Below.refl _ w).alloc (Nat.le_refl _) _
  have hv1 := HMk.keep hv hBl (Nat.le_refl _)
  have HTX : Hid (∀ m ∈ ls, m.tx.length ≤ 1099511627776) := htx
  clear htx hv
  obtain ⟨x0, x1, x2, x3, x4⟩ := hx.cells
  unfold hkV
  dsimp only at x0 x1 x2 x3 x4 ⊢
  have hW0 : w.alloc (hkO ⟨A, AN, B, BN, ls⟩ (.slice lo ls.length lc)) = w.alloc (Obj.cells #[Value.int IntKind.i64 A, Value.int IntKind.i64 AN, Value.int IntKind.i64 B, Value.int IntKind.i64 BN, .slice lo ls.length lc] 44) := rfl
  generalize w.alloc (hkO ⟨A, AN, B, BN, ls⟩ (.slice lo ls.length lc)) = W at *
  have hW := hW0.symm
  clear hW0
  obtain ⟨p1, hp1⟩ : ∃ p, nmB A AN = p := ⟨_, rfl⟩
  obtain ⟨p2, hp2⟩ : ∃ p, nmB B BN = p := ⟨_, rfl⟩
  have HG : Hid (rngB ⟨A, AN, B, BN, ls⟩ = (p1 && p2)) := (by show _ = _; rw [rng_nm, ← hp1, ← hp2])
  have HP1 : Hid (nmB A AN = p1) := hp1
  have HP2 : Hid (nmB B BN = p2) := hp2
  clear hp1 hp2
  go_enter Tryd.func20, Tryd.ntmps20
  go_wp2_with fail
  refine (hnumbered_f A AN W p1 HP1).mono ?_
  rintro e w1 ⟨rfl, rfl⟩
  clear hW HP1
  cases p1 with
  | false =>
    have HE : Hid (2 = r) := (by show _ = _; rw [← HR.out, chk_rng (by rw [HG.out]; rfl)])
    clear HR HG
    go_wp2
    go_ret
    exact ⟨by rw [← HE.out]; rfl, hBl⟩
  | true =>
  go_wp2_with fail
  refine (hnumbered_f B BN w1 p2 HP2).mono ?_
  rintro e W ⟨rfl, rfl⟩
  clear HP2
  cases p2 with
  | false =>
    have HE : Hid (2 = r) := (by show _ = _; rw [← HR.out, chk_rng (by rw [HG.out]; rfl)])
    clear HR HG
    go_wp2
    go_ret
    exact ⟨by rw [← HE.out]; rfl, hBl⟩
  | true =>
    obtain ⟨RO, hRO⟩ : ∃ r, oldL ⟨A, AN, B, BN, ls⟩ = r := ⟨_, rfl⟩
    obtain ⟨RN, hRN⟩ : ∃ r, newL ⟨A, AN, B, BN, ls⟩ = r := ⟨_, rfl⟩
    have HO : Hid (oldL ⟨A, AN, B, BN, ls⟩ = RO) := hRO
    have HN : Hid (newL ⟨A, AN, B, BN, ls⟩ = RN) := hRN
    have HF : Hid (fldB ls = (allB ls && checkB RO && checkB RN)) := (by show _ = _; rw [← hRO, ← hRN]; exact fld_code ls)
    have hROl : RO.length ≤ 1099511627776 := by rw [← hRO]; have := pkL_length 43 ls; simp only [oldL]; omega
    have hRNl : RN.length ≤ 1099511627776 := by rw [← hRN]; have := pkL_length 45 ls; simp only [newL]; omega
    have HROm : Hid (∀ a ∈ RO, a.length ≤ 1099511627776) := (by
      intro a ha
      rw [← hRO] at ha
      obtain ⟨m, hm, rfl⟩ := pk_mem ha
      exact HTX.out m hm)
    have HRNm : Hid (∀ a ∈ RN, a.length ≤ 1099511627776) := (by
      intro a ha
      rw [← hRN] at ha
      obtain ⟨m, hm, rfl⟩ := pk_mem ha
      exact HTX.out m hm)
    clear hRO hRN HTX
    have hxx : ∀ u : World, Low W u → Hx u w.heap.size ⟨A, AN, B, BN, ls⟩ (.slice lo ls.length lc) := fun u hu => hx.low hu
    go_upto_region 3 with fail
    go_cut [3, 4] from 5 to 51 (fun a b wz => ∃ oo oc no nc, a = .slice oo RO.length oc ∧ b = .slice no RN.length nc ∧ HS wz a RO ∧ HS wz b RN ∧ Below W.heap.size W wz)
    case first =>
      have hlow : Low W (W.drewN 1) := Below.dN (Below.refl _ W) 1
      refine wp_region_noPanic ?_
      refine wp_region_held_drew (S := fun u => Low W u) (by kernel_rfl) hlow (fun hHeld => ?_)
      refine go_take 0 19 _ (hkV ⟨A, AN, B, BN, ls⟩ (.slice lo ls.length lc)) rfl (by kernel_rfl) (by kernel_rfl) (by kernel_rfl) (by kernel_rfl) (fun _ _ _ h => h) (Or.inl ⟨by kernel_rfl, fun u hu => load_hk (hxx u hu) (.tmp 1) (by kernel_rfl) (by kernel_rfl)⟩) hHeld ?_
      simp only [Act.put, List.setIfInBounds_toArray, List.set_cons_zero, List.set_cons_succ]
      refine go_take 2 21 _ (hkV ⟨A, AN, B, BN, ls⟩ (.slice lo ls.length lc)) rfl (by kernel_rfl) (by kernel_rfl) (by kernel_rfl) (by kernel_rfl) (fun _ _ _ h => h) (Or.inl ⟨by kernel_rfl, fun u hu => load_hk (hxx u hu) (.tmp 1) (by kernel_rfl) (by kernel_rfl)⟩) hHeld ?_
      simp only [Act.put, List.setIfInBounds_toArray, List.set_cons_zero, List.set_cons_succ]
      refine go_callE 1 20 _ rfl (by kernel_rfl) (by kernel_rfl) (by kernel_rfl) 32 (.func 32) #[.tmp 19] #[44] (by kernel_rfl) #[] (by kernel_rfl) #[hkV ⟨A, AN, B, BN, ls⟩ (.slice lo ls.length lc)] (by kernel_rfl) (enters_of Tryd.func32 (by kernel_rfl) rfl) _ (hold_held hv1 hl HO hHeld) ?_
      rintro vo w1 hHeld1 ⟨hvo, hBo⟩
      obtain ⟨oo, oc, rfl⟩ := Holds.form hvo
      simp only [Act.put, List.setIfInBounds_toArray, List.set_cons_zero, List.set_cons_succ]
      refine go_callE 3 22 _ rfl (by kernel_rfl) (by kernel_rfl) (by kernel_rfl) 33 (.func 33) #[.tmp 21] #[44] (by kernel_rfl) #[] (by kernel_rfl) #[hkV ⟨A, AN, B, BN, ls⟩ (.slice lo ls.length lc)] (by kernel_rfl) (enters_of Tryd.func33 (by kernel_rfl) rfl) _ (hnew_held hv1 hl HN hHeld1) ?_
      rintro vn w2 hHeld ⟨hvn, hBn⟩
      obtain ⟨no, nc, rfl⟩ := Holds.form hvn
      simp only [Act.put, List.setIfInBounds_toArray, List.set_cons_zero, List.set_cons_succ]
      refine go_take 4 3 _ (.slice oo RO.length oc) rfl (by kernel_rfl) (by kernel_rfl) (by kernel_rfl) (by kernel_rfl) (fun _ _ _ h => h) (Or.inl ⟨by kernel_rfl, fun u hu => by kernel_rfl⟩) hHeld ?_
      simp only [Act.put, List.setIfInBounds_toArray, List.set_cons_zero, List.set_cons_succ]
      refine go_take 5 4 _ (.slice no RN.length nc) rfl (by kernel_rfl) (by kernel_rfl) (by kernel_rfl) (by kernel_rfl) (fun _ _ _ h => h) (Or.inl ⟨by kernel_rfl, fun u hu => by kernel_rfl⟩) hHeld ?_
      simp only [Act.put, List.setIfInBounds_toArray, List.set_cons_zero, List.set_cons_succ]
      refine wpAnyH_done (by kernel_rfl) ?_ _
      refine NoPanic.normal ?_
      go_wp2_with fail
      go_meet
      case rel => exact ⟨_, _, _, _, rfl, rfl, HS.keep hvo hBn (Nat.le_refl _), hvn, hHeld⟩
    case rest =>
      obtain ⟨oo, oc, no, nc, rfl, rfl, hvo, hvn, hBz⟩ := hcut
      have hB2 := hBl.trans (hBz.mono hBl.size)
      obtain ⟨y0, y1, y2, y3, y4⟩ := (hxx _ hBz).cells
      dsimp only at y0 y1 y2 y3 y4
      have hv2 := HMk.keep hv1 hBz (Nat.le_refl _)
      generalize wc = w2 at *
      clear x0 x1 x2 x3 x4
      obtain ⟨s, hs⟩ : ∃ s, allB ls = s := ⟨_, rfl⟩
      have HS1 : Hid (ls.any (fun m => !okS m.sg) = !s) := (by show _ = _; rw [any_strange, hs])
      have HF2 : Hid (fldB ls = (s && checkB RO && checkB RN)) := (by have h := HF.out; rw [hs] at h; exact h)
      clear HF hs
      go_wp2_with fail
      refine (hContains_f 35 ls (fun m => !okS m.sg) _ w2 hv2 hl (enters_of Tryd.func35 (by kernel_rfl) rfl) (fun m _ u => hstrange_f m u) (!s) HS1).mono ?_
      rintro e w3 ⟨rfl, hB3⟩
      have hx3 := (hxx _ hBz).low hB3
      have hvo3 := HS.keep hvo hB3 (Nat.le_refl _)
      have hvn3 := HS.keep hvn hB3 (Nat.le_refl _)
      have hv3 := HMk.keep hv2 hB3 (Nat.le_refl _)
      have hB4 := hB2.trans (hB3.mono hB2.size)
      obtain ⟨z0, z1, z2, z3, z4⟩ := hx3.cells
      dsimp only at z0 z1 z2 z3 z4
      clear y0 y1 y2 y3 y4 HS1
      cases s with
      | false =>
        have HE : Hid (6 = r) := (by show _ = _; rw [← HR.out, chk_fld HG.out (by rw [HF2.out]; rfl)])
        clear HR HG HF2
        go_wp2
        go_ret
        exact ⟨by rw [← HE.out]; rfl, hB4⟩
      | true =>
      obtain ⟨q1, hq1⟩ : ∃ q, checkB RO = q := ⟨_, rfl⟩
      obtain ⟨q2, hq2⟩ : ∃ q, checkB RN = q := ⟨_, rfl⟩
      have HQ1 : Hid (checkB RO = q1) := hq1
      have HQ2 : Hid (checkB RN = q2) := hq2
      have HF3 : Hid (fldB ls = (q1 && q2)) := (by have h := HF2.out; rw [hq1, hq2, Bool.true_and] at h; exact h)
      clear HF2 hq1 hq2
      cases q1 with
      | false =>
        have HE : Hid (6 = r) := (by show _ = _; rw [← HR.out, chk_fld HG.out (by rw [HF3.out]; rfl)])
        clear HR HG HF3
        go_wp2_with fail
        refine (hlCheck_f _ RO w3 hROl HROm.out hvo3 false HQ1 6 rfl).mono ?_
        rintro e w4 ⟨rfl, rfl⟩
        go_wp2
        go_ret
        exact ⟨by rw [← HE.out]; rfl, hB4⟩
      | true =>
      go_wp2_with fail
      refine (hlCheck_f _ RO w3 hROl HROm.out hvo3 true HQ1 0 rfl).mono ?_
      rintro e w4 ⟨rfl, rfl⟩
      cases q2 with
      | false =>
        have HE : Hid (6 = r) := (by show _ = _; rw [← HR.out, chk_fld HG.out (by rw [HF3.out]; rfl)])
        clear HR HG HF3
        go_wp2_with fail
        refine (hlCheck_f _ RN w3 hRNl HRNm.out hvn3 false HQ2 6 rfl).mono ?_
        rintro e w4 ⟨rfl, rfl⟩
        go_wp2
        go_ret
        exact ⟨by rw [← HE.out]; rfl, hB4⟩
      | true =>
      go_wp2_with fail
      refine (hlCheck_f _ RN w3 hRNl HRNm.out hvn3 true HQ2 0 rfl).mono ?_
      rintro e w4 ⟨rfl, rfl⟩
      have HFT : Hid (fldB ls = true) := (by have h := HF3.out; exact h)
      clear HF3 HQ1 HQ2
      by_cases ha : (RO.length : Int) = AN
      · have ea : ((RO.length : Int) != AN) = false := by simpa using ha
        by_cases hb : (RN.length : Int) = BN
        · have eb : ((RN.length : Int) != BN) = false := by simpa using hb
          obtain ⟨q, hq⟩ : ∃ q, ls.any chgB = q := ⟨_, rfl⟩
          have HQ : Hid (ls.any chgB = q) := hq
          have HE : Hid ((if q = true then 0 else 50) = r) := (by
            show _ = _
            rw [← HR.out, chk_end (h := ⟨A, AN, B, BN, ls⟩) HG.out HFT.out (by rw [HO.out, ha]) (by rw [HN.out, hb]) hq])
          clear HR HG HFT hq ha hb
          go_wp2_with fail
          refine (hContains_f 37 ls chgB _ w3 hv3 hl (enters_of Tryd.func37 (by kernel_rfl) rfl) (fun m _ u => hchanged_f m u) q HQ).mono ?_
          rintro e w5 ⟨rfl, hB5⟩
          have hB6 := hB4.trans (hB5.mono hB4.size)
          cases q with
          | false =>
            go_wp2
            go_ret
            exact ⟨by rw [← HE.out]; rfl, hB6⟩
          | true =>
            go_wp2
            go_ret
            exact ⟨by rw [← HE.out]; rfl, hB6⟩
        · have eb : ((RN.length : Int) != BN) = true := by simpa using hb
          have HE : Hid (120 = r) := (by
            show _ = _
            rw [← HR.out, chk_cnt (h := ⟨A, AN, B, BN, ls⟩) HG.out HFT.out (.inr (by rw [HN.out]; exact fun k => hb k.symm))])
          clear HR HG HFT ha hb
          go_wp2
          go_ret
          exact ⟨by rw [← HE.out]; rfl, hB4⟩
      · have ea : ((RO.length : Int) != AN) = true := by simpa using ha
        have HE : Hid (120 = r) := (by
          show _ = _
          rw [← HR.out, chk_cnt (h := ⟨A, AN, B, BN, ls⟩) HG.out HFT.out (.inl (by rw [HO.out]; exact fun k => ha k.symm))])
        clear HR HG HFT ha
        go_wp2
        go_ret
        exact ⟨by rw [← HE.out]; rfl, hB4⟩
end Go.Proofs.YtgcccpmcbjfaaaaDoor

/- The code's text of a hunk, check and Print of layer 15, walked. -/
namespace Go.Proofs.YtgcccpmcbjfaaaaDoor
open Go.RowKit Go.Proofs.YtgcccpmcbjfaaaaDoor

theorem Hx.wr {B b : Nat} {v v' : Value} {w w' : World} {M : Nat} {h : Hk} {y : Value} (q : Hx w M h y) (hw : Wr B b v v' w w') (ho : Off M b v) : Hx w' M h y ∧ Off M b v' := hw.block q ho
theorem shown_keep {B b base : Nat} {v : Value} {w : World} {sv : Value} {n : Nat} {xs : List Value} (h : w.ownsRow base 5 1 sv n xs) (hb : b < base) (hv : ∀ g, v.ownBlock = some g → g < base) : ∀ (v' : Value) (u : World), Wr B b v v' w u → Holds u sv n xs := by
  intro v' u hw
  rcases h.2 with ⟨rfl, h0⟩ | ⟨g, cap, cur, rfl, hg, hgb, hnc, _⟩
  · exact .inl ⟨rfl, h0, List.eq_nil_of_length_eq_zero (by rw [h.1, h0, Nat.zero_mul])⟩
  · refine .inr ⟨⟨g, 0, none⟩, cap, rfl, hnc, fun j x hj => ?_⟩
    have h1 := h.cells (g := g) rfl j x hj
    obtain ⟨h2, _⟩ := hw.block hgb ⟨by omega, fun e => by have := hv g e; omega⟩
    rw [add_none] at h1 ⊢
    rw [World.cell?_of_block (w := w) (by show u.heap[g]? = w.heap[g]?; rw [h2, hgb])]
    exact h1
theorem shw_signs (l : List Mk) (h : ∀ m ∈ l, okS m.sg = true) : ∀ r a, ∀ x ∈ shwL r a l, 0 ≤ x ∧ x < 256 := by
  induction l with
  | nil => intro r a x hx; cases hx
  | cons m l ih =>
    intro r a x hx
    have hi := ih fun y hy => h y (by simp [hy])
    have hm := h m (by simp)
    have hc : m.sg = 32 ∨ m.sg = 45 ∨ m.sg = 43 := by simp [okS] at hm; omega
    simp only [shwL] at hx
    split at hx
    · rcases List.mem_cons.1 hx with rfl | hx
      · omega
      · exact hi _ _ x hx
    · rcases List.mem_cons.1 hx with rfl | hx
      · split <;> omega
      · exact hi _ _ x hx
theorem side_code0 (sg : Int) (l : List Mk) : (if hasM sg l = true then sidZ sg l (shwL false false l) else []) = sideL sg l := by
  unfold sideL
  rw [sid_shw]
  rfl
theorem chk_signs {h : Hk} (hc : chkH h = 0) : ∀ m ∈ h.ls, okS m.sg = true := by
  obtain ⟨_, hf, _⟩ := chk_out hc
  exact fun m hm => (((fld_iff _).1 hf).1 m hm).2
theorem row_len (e : UInt8) (T : List UInt8) : ([e, e, e, 32] ++ T ++ [32, e, e, e, e]).length = T.length + 9 := by simp
end Go.Proofs.YtgcccpmcbjfaaaaDoor

/- The code's check and Print of layer 15, walked. -/
namespace Go.Proofs.YtgcccpmcbjfaaaaDoor
open Go.RowKit Go.Proofs.YtgcccpmcbjfaaaaDoor

/-- a patch as a value, as a variable -/
def ptV (p : Pth) (v : Value) : Value := .agg #[.string ⟨p.old.toArray⟩, .string ⟨p.new.toArray⟩, v]
def ptO (p : Pth) (v : Value) : Obj := .cells #[.string ⟨p.old.toArray⟩, .string ⟨p.new.toArray⟩, v] 24
def Px (u : World) (b : Nat) (p : Pth) (v : Value) : Prop := u.heap[b]? = some (ptO p v)
theorem Px.cells {u : World} {b : Nat} {p : Pth} {v : Value} (q : Px u b p v) : u.cell? ⟨b, 0, none⟩ = some (.string ⟨p.old.toArray⟩) ∧ u.cell? ⟨b, 1, none⟩ = some (.string ⟨p.new.toArray⟩) ∧ u.cell? ⟨b, 2, none⟩ = some v := by
  unfold Px ptO at q
  refine ⟨?_, ?_, ?_⟩ <;> rw [Lib.cell_of_heap q] <;> rfl
theorem Px.lt {u : World} {b : Nat} {p : Pth} {v : Value} (q : Px u b p v) : b < u.heap.size := (Array.getElem?_eq_some_iff.1 q).1
theorem Px.low {u u' : World} {b : Nat} {p : Pth} {v : Value} (q : Px u b p v) (hg : Below u.heap.size u u') : Px u' b p v := (hg.block b q.lt).trans q
theorem Px.wr {B b : Nat} {v v' : Value} {w w' : World} {M : Nat} {p : Pth} {y : Value} (q : Px w M p y) (hw : Wr B b v v' w w') (ho : Off M b v) : Px w' M p y ∧ Off M b v' := hw.block q ho
set_option maxHeartbeats 8000000 in
set_option maxRecDepth 10000 in
theorem ccheckP_f (p : Pth) (q : List (Hk × Value)) (HQ : Hid (q.map (·.1) = p.hs)) (v : Value) (w : World) (hv : HHp w v q) (hok : HOk q) (ho : p.old.length ≤ 1099511627776) (hn : p.new.length ≤ 1099511627776) (r : Int) (HR : Hid (wrgP p = r)) :
    Calls Tryd.prog 9 #[ptV p v] w fun e w' => e = .returned (.int .i64 r) ∧ Below w.heap.size w w' := by
  obtain ⟨lo, lc, rfl⟩ := Holds.form hv.row
  obtain ⟨old, new, hs⟩ := p
  dsimp only at HQ ho hn
  have hql : hs.length = q.length := (by rw [← HQ.out, List.length_map])
  have HRR := HR.out
  unfold wrgP at HRR
  dsimp only at HRR
  have hBm : Below w.heap.size w (w.alloc (.cells #[.string ⟨old.toArray⟩, .string ⟨new.toArray⟩, .slice lo q.length lc] 24)) := (Below.refl _ w).alloc (Nat.le_refl _) _
  have e : ptV ⟨old, new, hs⟩ (.slice lo q.length lc) = .agg #[.string ⟨old.toArray⟩, .string ⟨new.toArray⟩, .slice lo q.length lc] := rfl
  rw [e]
  clear e HR
  by_cases h1 : 64 < old.length ∨ 64 < new.length
  · rw [if_pos h1] at HRR
    have HE : Hid (253 = r) := HRR
    clear HRR hql
    by_cases h2 : 64 < old.length
    · have i1 : (64 : Int) < (old.length : Int) := by omega
      go_enter Tryd.func9, Tryd.ntmps9
      go_wp2
      go_ret
      exact ⟨by rw [← HE.out]; rfl, hBm⟩
    · have i1 : ¬ (64 : Int) < (old.length : Int) := by omega
      have i2 : (64 : Int) < (new.length : Int) := by omega
      go_enter Tryd.func9, Tryd.ntmps9
      go_wp2
      go_ret
      exact ⟨by rw [← HE.out]; rfl, hBm⟩
  · rw [if_neg h1] at HRR
    have i1 : ¬ (64 : Int) < (old.length : Int) := by omega
    have i2 : ¬ (64 : Int) < (new.length : Int) := by omega
    by_cases h2 : 4096 < hs.length
    · rw [if_pos h2] at HRR
      have HE : Hid (9 = r) := HRR
      have i3 : (4096 : Int) < (q.length : Int) := by omega
      clear HRR hql
      go_enter Tryd.func9, Tryd.ntmps9
      go_wp2
      go_ret
      exact ⟨by rw [← HE.out]; rfl, hBm⟩
    · rw [if_neg h2] at HRR
      have HE : Hid (errs ((q.map (·.1)).drop 0) = r) := (by show _ = _; rw [HQ.out, List.drop_zero]; exact HRR)
      have i3 : ¬ (4096 : Int) < (q.length : Int) := by omega
      have hq4 : q.length ≤ 4096 := by omega
      clear HRR hql h1 h2
      go_enter Tryd.func9, Tryd.ntmps9
      go_wp2
      go_loopw [23] (fun i wr => ∃ k : Nat, k ≤ q.length ∧ i = .int .i64 k ∧ Below w.heap.size w wr ∧ Hid (errs ((q.map (·.1)).drop k) = r)) (fun i _ => q.length - (intOf i).toNat)
      case atStart => exact ⟨0, Nat.zero_le _, by go_num, hBm, HE⟩
      case round =>
      clear HE hBm
      obtain ⟨k, hk, rfl, hB, HI⟩ := hrel
      by_cases hlt : k < q.length
      · obtain ⟨bk, off, rfl, hbk, _⟩ := hv.at (by omega)
        obtain ⟨h, y, hx⟩ : ∃ h y, q[k] = (h, y) := ⟨_, _, rfl⟩
        obtain ⟨⟨c0, c1, c2, c3, c4⟩, hm⟩ := HHp.take hv hB k hlt hx
        obtain ⟨o1, o2⟩ := hok.2 q[k] (List.getElem_mem hlt)
        rw [hx] at o1 o2
        dsimp only at o1 o2
        have HI2 := HI.out
        rw [errs_drop (by rw [List.length_map]; exact hlt), List.getElem_map, hx] at HI2
        dsimp only at HI2
        have i4 : (0 : Int) ≤ (k : Int) := by omega
        have i5 : (k : Int) < (q.length : Int) := by omega
        obtain ⟨z, hz⟩ : ∃ z, chkH h = z := ⟨_, rfl⟩
        rw [hz] at HI2
        have hBm := hB.alloc hB.size (.cells #[.int .i64 h.A, .int .i64 h.AN, .int .i64 h.B, .int .i64 h.BN, y] 44)
        have hmm := hm.keep ((Below.refl _ wr).alloc (Nat.le_refl _) (.cells #[.int .i64 h.A, .int .i64 h.AN, .int .i64 h.B, .int .i64 h.BN, y] 44)) (Nat.le_refl _)
        have hc := hCheck_f h y _ hmm o1 o2 z hz
        obtain ⟨yo, yc, rfl⟩ := HMk.form hm
        have e : hkV h (.slice yo h.ls.length yc) = .agg #[.int .i64 h.A, .int .i64 h.AN, .int .i64 h.B, .int .i64 h.BN, .slice yo h.ls.length yc] := rfl
        rw [e] at hc
        clear e hz HI hx hm hmm
        by_cases hz0 : z = 0
        · subst hz0
          rw [if_neg (by decide)] at HI2
          have HI3 : Hid (errs ((q.map (·.1)).drop (k + 1)) = r) := HI2
          clear HI2
          go_wp2_with fail
          refine hc.mono ?_
          rintro e w1 ⟨rfl, hB1⟩
          go_wp2
          exact ⟨⟨k + 1, by omega, by go_num, hBm.trans (hB1.mono hBm.size), HI3⟩, by simp [intOf]; omega⟩
        · rw [if_pos hz0] at HI2
          have HI3 : Hid (z = r) := HI2
          have e1 : (z != 0) = true := bne_iff_ne.2 hz0
          clear HI2 hz0
          go_wp2_with fail
          refine hc.mono ?_
          rintro e w1 ⟨rfl, hB1⟩
          go_wp2
          go_ret
          exact ⟨by rw [← HI3.out]; rfl, hBm.trans (hB1.mono hBm.size)⟩
      · have hend : decide ((k : Int) < (q.length : Int)) = false := decide_eq_false (by omega)
        have HE : Hid (0 = r) := (by
          have h := HI.out
          rw [List.drop_of_length_le (by rw [List.length_map]; omega)] at h
          exact h)
        clear HI
        go_wp2
        go_ret
        exact ⟨by rw [← HE.out]; rfl, hB⟩
end Go.Proofs.YtgcccpmcbjfaaaaDoor

/- The reference's Name, Wrong and span of layer 15, walked. -/
namespace Go.Proofs.YtgcccpmcbjfaaaaDoor
open Go.RowKit Go.Proofs.YtgcccpmcbjfaaaaDoor
attribute [local go_sem] no_at

theorem all_drop1 {l : List UInt8} {k : Nat} (hk : k < l.length) : (l.drop k).all nameC = (nameC l[k] && (l.drop (k + 1)).all nameC) := by
  rw [List.drop_eq_getElem_cons hk, List.all_cons]
set_option maxHeartbeats 4000000 in
set_option maxRecDepth 10000 in
theorem rName_f (l : List UInt8) (w : World) (hl : l.length ≤ 1099511627776) (t : List UInt8) (HT : Hid (nameT l = t)) :
    Calls Tryd.prog 27 #[.string ⟨l.toArray⟩] w fun e w' => e = .returned (.string ⟨t.toArray⟩) ∧ Below w.heap.size w w' := by
  by_cases h0 : l = []
  · have HE : Hid (devN = t) := (by have h := HT.out; unfold nameT at h; rw [if_pos h0] at h; exact h)
    subst h0
    go_enter Tryd.func27, Tryd.ntmps27
    go_wp2
    go_ret
    exact ⟨by rw [← HE.out]; rfl, Below.refl _ _⟩
  · have e0 : l.isEmpty = false := (by cases l with | nil => exact absurd rfl h0 | cons _ _ => rfl)
    have hq := refQuote_any l
    obtain ⟨q, hq2⟩ : ∃ q, l.all nameC = q := ⟨_, rfl⟩
    have HA0 : Hid ((l.drop 0).all nameC = q) := hq2
    have HQ : Hid (l.all nameC = q) := hq2
    clear hq2
    go_enter Tryd.func27, Tryd.ntmps27
    go_wp2
    go_loopw [3] (fun i wr => ∃ k : Nat, k ≤ l.length ∧ i = .int .i64 k ∧ wr = w ∧ Hid ((l.drop k).all nameC = q)) (fun i _ => l.length - (intOf i).toNat)
    case atStart => exact ⟨0, Nat.zero_le _, by go_num, rfl, HA0⟩
    case round =>
    obtain ⟨k, hk, rfl, rfl, HI⟩ := hrel
    clear HA0
    by_cases hlt : k < l.length
    · have HI2 := HI.out
      rw [all_drop1 hlt] at HI2
      have i1 : (0 : Int) ≤ (k : Int) := by omega
      have i2 : (k : Int) < (l.length : Int) := by omega
      obtain ⟨c, hc⟩ : ∃ c, l[k] = c := ⟨_, rfl⟩
      rw [hc] at HI2
      have hcn := c.toNat_lt
      clear HI
      cases hn : nameC c with
      | true =>
        rw [hn, Bool.true_and] at HI2
        have HI3 : Hid ((l.drop (k + 1)).all nameC = q) := HI2
        have hx := of_decide_eq_true hn
        have j1 : ¬ (c.toNat : Int) < 33 := by omega
        have j2 : ¬ (126 : Int) < (c.toNat : Int) := by omega
        have j3 : ((c.toNat : Int) == 34) = false := beq_eq_false_iff_ne.2 (by omega)
        clear HI2 hn hx
        go_wp2
        exact ⟨⟨k + 1, by omega, by go_num, by first | rfl | trivial, HI3⟩, by simp [intOf]; omega⟩
      | false =>
        rw [hn, Bool.false_and] at HI2
        have HE : Hid (Q.quote l = t) := (by have h := HT.out; unfold nameT at h; rw [if_neg h0, if_neg (fun z => by rw [HQ.out, ← HI2] at z; cases z.1)] at h; exact h)
        have hx := of_decide_eq_false hn
        clear HI2 hn
        by_cases j1 : (c.toNat : Int) < 33
        · clear hx
          go_wp2_with fail
          refine (hq _ hl).mono ?_
          rintro e w1 ⟨rfl, hB⟩
          go_wp2
          go_ret
          exact ⟨by rw [← HE.out]; rfl, hB⟩
        · by_cases j2 : (126 : Int) < (c.toNat : Int)
          · clear hx
            go_wp2_with fail
            refine (hq _ hl).mono ?_
            rintro e w1 ⟨rfl, hB⟩
            go_wp2
            go_ret
            exact ⟨by rw [← HE.out]; rfl, hB⟩
          · have j3 : ((c.toNat : Int) == 34) = true := beq_iff_eq.2 (by omega)
            clear hx
            go_wp2_with fail
            refine (hq _ hl).mono ?_
            rintro e w1 ⟨rfl, hB⟩
            go_wp2
            go_ret
            exact ⟨by rw [← HE.out]; rfl, hB⟩
    · have hqt : q = true := (by
        have h := HI.out
        rw [List.drop_of_length_le (by omega)] at h
        exact h.symm)
      have hend : ¬ (k : Int) < (l.length : Int) := by omega
      clear HI
      by_cases h1 : l = devN
      · have HE : Hid (Q.quote l = t) := (by have h := HT.out; unfold nameT at h; rw [if_neg h0, if_neg (fun z => z.2 h1)] at h; exact h)
        have e1 : (l == [47, 100, 101, 118, 47, 110, 117, 108, 108]) = true := (by rw [beq_iff_eq]; exact h1)
        clear h1
        go_wp2_with fail
        refine (hq _ hl).mono ?_
        rintro e w1 ⟨rfl, hB⟩
        go_wp2
        go_ret
        exact ⟨by rw [← HE.out]; rfl, hB⟩
      · have HE : Hid (l = t) := (by have h := HT.out; unfold nameT at h; rw [if_neg h0, if_pos ⟨by rw [HQ.out, hqt], h1⟩] at h; exact h)
        have e1 : (l == [47, 100, 101, 118, 47, 110, 117, 108, 108]) = false := beq_eq_false_iff_ne.2 h1
        clear h1
        go_wp2
        go_ret
        exact ⟨by rw [← HE.out]; rfl, Below.refl _ _⟩
set_option maxHeartbeats 8000000 in
set_option maxRecDepth 10000 in
theorem rWrong_f (p : Pth) (q : List (Hk × Value)) (HQ : Hid (q.map (·.1) = p.hs)) (v : Value) (w : World) (hv : HHp w v q) (hok : HOk q) (ho : p.old.length ≤ 1099511627776) (hn : p.new.length ≤ 1099511627776) (r : Int) (HR : Hid (wrgP p = r)) :
    Calls Tryd.prog 26 #[ptV p v] w fun e w' => e = .returned (.int .i64 r) ∧ Below w.heap.size w w' := by
  obtain ⟨lo, lc, rfl⟩ := Holds.form hv.row
  obtain ⟨old, new, hs⟩ := p
  dsimp only at HQ ho hn
  have hql : hs.length = q.length := (by rw [← HQ.out, List.length_map])
  have HRR := HR.out
  unfold wrgP at HRR
  dsimp only at HRR
  have hBm : Below w.heap.size w (w.alloc (.cells #[.string ⟨old.toArray⟩, .string ⟨new.toArray⟩, .slice lo q.length lc] 24)) := (Below.refl _ w).alloc (Nat.le_refl _) _
  have e : ptV ⟨old, new, hs⟩ (.slice lo q.length lc) = .agg #[.string ⟨old.toArray⟩, .string ⟨new.toArray⟩, .slice lo q.length lc] := rfl
  rw [e]
  clear e HR
  by_cases h1 : 64 < old.length ∨ 64 < new.length
  · rw [if_pos h1] at HRR
    have HE : Hid (253 = r) := HRR
    clear HRR hql
    by_cases h2 : 64 < old.length
    · have i1 : (64 : Int) < (old.length : Int) := by omega
      go_enter Tryd.func26, Tryd.ntmps26
      go_wp2
      go_ret
      exact ⟨by rw [← HE.out]; rfl, hBm⟩
    · have i1 : ¬ (64 : Int) < (old.length : Int) := by omega
      have i2 : (64 : Int) < (new.length : Int) := by omega
      go_enter Tryd.func26, Tryd.ntmps26
      go_wp2
      go_ret
      exact ⟨by rw [← HE.out]; rfl, hBm⟩
  · rw [if_neg h1] at HRR
    have i1 : ¬ (64 : Int) < (old.length : Int) := by omega
    have i2 : ¬ (64 : Int) < (new.length : Int) := by omega
    by_cases h2 : 4096 < hs.length
    · rw [if_pos h2] at HRR
      have HE : Hid (9 = r) := HRR
      have i3 : (4096 : Int) < (q.length : Int) := by omega
      clear HRR hql
      go_enter Tryd.func26, Tryd.ntmps26
      go_wp2
      go_ret
      exact ⟨by rw [← HE.out]; rfl, hBm⟩
    · rw [if_neg h2] at HRR
      have HE : Hid (errs ((q.map (·.1)).drop 0) = r) := (by show _ = _; rw [HQ.out, List.drop_zero]; exact HRR)
      have i3 : ¬ (4096 : Int) < (q.length : Int) := by omega
      have hq4 : q.length ≤ 4096 := by omega
      clear HRR hql h1 h2
      go_enter Tryd.func26, Tryd.ntmps26
      have hPx : Px (w.alloc (.cells #[.string ⟨old.toArray⟩, .string ⟨new.toArray⟩, .slice lo q.length lc] 24)) w.heap.size ⟨old, new, hs⟩ (.slice lo q.length lc) := heap_alloc_new w _
      go_wp2
      generalize w.alloc (.cells #[.string ⟨old.toArray⟩, .string ⟨new.toArray⟩, .slice lo q.length lc] 24) = W at hBm hPx ⊢
      have hv2 := hv.keep hBm (Nat.le_refl _)
      generalize w.heap.size = M at hPx ⊢
      go_loopw [3] (fun i wr => ∃ k : Nat, k ≤ q.length ∧ i = .int .i64 k ∧ Below W.heap.size W wr ∧ Hid (errs ((q.map (·.1)).drop k) = r)) (fun i _ => q.length - (intOf i).toNat)
      case atStart => exact ⟨0, Nat.zero_le _, by go_num, Below.refl _ _, HE⟩
      case round =>
      clear HE
      obtain ⟨k, hk, rfl, hB, HI⟩ := hrel
      obtain ⟨p0, p1, p2⟩ := (hPx.low hB).cells
      by_cases hlt : k < q.length
      · obtain ⟨bk, off, rfl, hbk, _⟩ := hv2.at (by omega)
        obtain ⟨h, y, hx⟩ : ∃ h y, q[k] = (h, y) := ⟨_, _, rfl⟩
        obtain ⟨⟨c0, c1, c2, c3, c4⟩, hm⟩ := HHp.take hv2 hB k hlt hx
        obtain ⟨o1, o2⟩ := hok.2 q[k] (List.getElem_mem hlt)
        rw [hx] at o1 o2
        dsimp only at o1 o2
        have HI2 := HI.out
        rw [errs_drop (by rw [List.length_map]; exact hlt), List.getElem_map, hx] at HI2
        dsimp only at HI2
        have i4 : (0 : Int) ≤ (k : Int) := by omega
        have i5 : (k : Int) < (q.length : Int) := by omega
        obtain ⟨z, hz⟩ : ∃ z, chkH h = z := ⟨_, rfl⟩
        rw [hz] at HI2
        have hc := rhCheck_f h y wr hm o1 o2 z hz
        obtain ⟨yo, yc, rfl⟩ := HMk.form hm
        have e : hkV h (.slice yo h.ls.length yc) = .agg #[.int .i64 h.A, .int .i64 h.AN, .int .i64 h.B, .int .i64 h.BN, .slice yo h.ls.length yc] := rfl
        rw [e] at hc
        clear e hz HI hx hm
        by_cases hz0 : z = 0
        · subst hz0
          rw [if_neg (by decide)] at HI2
          have HI3 : Hid (errs ((q.map (·.1)).drop (k + 1)) = r) := HI2
          clear HI2
          go_wp2_with fail
          refine hc.mono ?_
          rintro e w1 ⟨rfl, hB1⟩
          go_wp2
          exact ⟨⟨k + 1, by omega, by go_num, hB.trans (hB1.mono hB.size), HI3⟩, by simp [intOf]; omega⟩
        · rw [if_pos hz0] at HI2
          have HI3 : Hid (z = r) := HI2
          have e1 : (z != 0) = true := bne_iff_ne.2 hz0
          clear HI2 hz0
          go_wp2_with fail
          refine hc.mono ?_
          rintro e w1 ⟨rfl, hB1⟩
          go_wp2
          go_ret
          exact ⟨by rw [← HI3.out]; rfl, hBm.trans ((hB.trans (hB1.mono hB.size)).mono hBm.size)⟩
      · have hend : decide ((k : Int) < (q.length : Int)) = false := decide_eq_false (by omega)
        have HE : Hid (0 = r) := (by
          have h := HI.out
          rw [List.drop_of_length_le (by rw [List.length_map]; omega)] at h
          exact h)
        clear HI
        go_wp2
        go_ret
        exact ⟨by rw [← HE.out]; rfl, hBm.trans (hB.mono hBm.size)⟩
end Go.Proofs.YtgcccpmcbjfaaaaDoor

/- The context form: pieces around a place, as the reference goes; plain mathematics. -/
namespace Go.Proofs.YtgcccpmcbjfaaaaDoor
open Ln

def segM (l : List Mk) (i j : Nat) : List Mk := (l.take j).drop i
theorem hasM_app (k : Int) (a b : List Mk) : hasM k (a ++ b) = (hasM k a || hasM k b) := by simp [hasM, List.any_append]
theorem hasM_cons (k : Int) (m : Mk) (a : List Mk) : hasM k (m :: a) = ((m.sg == k) || hasM k a) := rfl
theorem seg_step {l : List Mk} {i j : Nat} (h : i < j) (hj : j ≤ l.length) : segM l i j = (l[i]'(by omega)) :: segM l (i + 1) j := by
  unfold segM
  have hl : i < (l.take j).length := by rw [List.length_take]; omega
  rw [List.drop_eq_getElem_cons hl]
  simp
theorem seg_nil (l : List Mk) {i j : Nat} (h : j ≤ i) : segM l i j = [] := by
  unfold segM
  exact List.drop_of_length_le (by rw [List.length_take]; omega)
theorem seg_cat (l : List Mk) {i k j : Nat} (h1 : i ≤ k) (h2 : k ≤ j) (_h3 : j ≤ l.length) : segM l i k ++ segM l k j = segM l i j := by
  unfold segM
  have e : l.take k = (l.take j).take k := by rw [List.take_take]; congr 1; omega
  rw [e, List.drop_take]
  have h := List.take_append_drop (k - i) ((l.take j).drop i)
  rw [List.drop_drop] at h
  have e2 : i + (k - i) = k := by omega
  rw [e2] at h
  exact h
theorem seg_last {l : List Mk} {i j : Nat} (h : i ≤ j) (hj : j < l.length) : segM l i (j + 1) = segM l i j ++ [l[j]] := by
  have h1 := seg_cat l h (Nat.le_succ j) (by omega)
  rw [seg_step (Nat.lt_succ_self j) (by omega), seg_nil l (Nat.le_refl (j + 1))] at h1
  exact h1.symm
/-- going back from a place -/
theorem back_step {l : List Mk} {k a : Nat} {sg : Int} (hk : k < a) (ha : a ≤ l.length) (hs : (l[k]'(by omega)).sg ≠ 32) (h : endS sg (l.take a) = (hasM sg (segM l (k + 1) a) || endS sg (l.take (k + 1)))) : endS sg (l.take a) = (hasM sg (segM l k a) || endS sg (l.take k)) := by
  rw [h, seg_step hk ha, hasM_cons, List.take_succ_eq_append_getElem (by omega), ends_snoc, if_neg hs]
  have : (l[k].sg == sg) = decide (l[k].sg = sg) := rfl
  rw [this]
  cases hasM sg (segM l (k + 1) a) <;> cases endS sg (l.take k) <;> cases decide (l[k].sg = sg) <;> rfl
theorem back_end {l : List Mk} {k a : Nat} {sg : Int} (hk : k ≤ l.length) (hs : k = 0 ∨ ∃ h : k - 1 < l.length, 0 < k ∧ l[k - 1].sg = 32) (h : endS sg (l.take a) = (hasM sg (segM l k a) || endS sg (l.take k))) : endS sg (l.take a) = hasM sg (segM l k a) := by
  rw [h]
  have : endS sg (l.take k) = false := by
    rcases hs with rfl | ⟨h1, h2, h3⟩
    · rfl
    · obtain ⟨j, rfl⟩ : ∃ j, k = j + 1 := ⟨k - 1, by omega⟩
      rw [List.take_succ_eq_append_getElem (by omega), ends_snoc, if_pos (by simpa using h3)]
  rw [this, Bool.or_false]
/-- going on from a place -/
theorem on_step {l : List Mk} {a t : Nat} {sg : Int} (ha : a ≤ t) (ht : t < l.length) (hs : l[t].sg ≠ 32) (h : anyS sg (l.drop a) = (hasM sg (segM l a t) || anyS sg (l.drop t))) : anyS sg (l.drop a) = (hasM sg (segM l a (t + 1)) || anyS sg (l.drop (t + 1))) := by
  rw [h, List.drop_eq_getElem_cons ht, seg_last ha ht, hasM_app]
  simp only [anyS]
  rw [if_neg hs]
  have : hasM sg [l[t]] = decide (l[t].sg = sg) := by simp [hasM]; rfl
  rw [this, Bool.or_assoc]
theorem on_end {l : List Mk} {a t : Nat} {sg : Int} (hs : l.length ≤ t ∨ ∃ h : t < l.length, l[t].sg = 32) (h : anyS sg (l.drop a) = (hasM sg (segM l a t) || anyS sg (l.drop t))) : anyS sg (l.drop a) = hasM sg (segM l a t) := by
  rw [h]
  have : anyS sg (l.drop t) = false := by
    rcases hs with h1 | ⟨h1, h2⟩
    · rw [List.drop_of_length_le h1]; rfl
    · rw [List.drop_eq_getElem_cons h1]
      simp only [anyS]
      rw [if_pos h2]
  rw [this, Bool.or_false]
/-- is a piece around a place mixed? -/
theorem both_seg {l : List Mk} {f a t : Nat} (h1 : f ≤ a) (h2 : a ≤ t) (h3 : t ≤ l.length) (e1 : endS 45 (l.take a) = hasM 45 (segM l f a)) (e2 : endS 43 (l.take a) = hasM 43 (segM l f a)) (e3 : anyS 45 (l.drop a) = hasM 45 (segM l a t)) (e4 : anyS 43 (l.drop a) = hasM 43 (segM l a t)) : bothM (l.take a) (l.drop a) = (hasM 45 (segM l f t) && hasM 43 (segM l f t)) := by
  unfold bothM
  rw [e1, e2, e3, e4, ← hasM_app, ← hasM_app, seg_cat l h1 h2 h3]
end Go.Proofs.YtgcccpmcbjfaaaaDoor

/- The reference's both and side of layer 15, walked. -/
namespace Go.Proofs.YtgcccpmcbjfaaaaDoor
open Go.RowKit

end Go.Proofs.YtgcccpmcbjfaaaaDoor

/- The reference's side of layer 15, walked. -/
namespace Go.Proofs.YtgcccpmcbjfaaaaDoor
open Go.RowKit

theorem two_conv (w : World) (x : Int) (h0 : 0 ≤ x) (h1 : x < 256) :
    (convert 34 9 (.slice (some ⟨w.heap.size, 0, none⟩) 2 2)).run Tryd.prog (w.alloc (.cells #[.int .u8 x, .int .u8 32] 5)) = .ok (.string ⟨#[UInt8.ofNat x.toNat, 32]⟩) (w.alloc (.cells #[.int .u8 x, .int .u8 32] 5)) := by
  have hx : ((UInt8.ofNat x.toNat).toNat : Int) = x := by simp only [UInt8.toNat_ofNat']; omega
  refine run_convert_bytes_back (w.alloc (.cells #[.int .u8 x, .int .u8 32] 5)) 34 9 5 ⟨w.heap.size, 0, none⟩ 2 [UInt8.ofNat x.toNat, 32] Tryd.underlying34 Tryd.underlying5 Tryd.underlying9 ?_
  intro j hj
  have hb := heap_alloc_new w (.cells #[.int .u8 x, .int .u8 32] 5)
  match j, hj with
  | 0, _ =>
    show (w.alloc (.cells #[.int .u8 x, .int .u8 32] 5)).cell? ⟨w.heap.size, 0 + 0, none⟩ = some (.int .u8 ((UInt8.ofNat x.toNat).toNat : Int))
    rw [hx, Lib.cell_of_heap hb]
    rfl
  | 1, _ =>
    show (w.alloc (.cells #[.int .u8 x, .int .u8 32] 5)).cell? ⟨w.heap.size, 0 + 1, none⟩ = some (.int .u8 32)
    rw [Lib.cell_of_heap hb]
    rfl
theorem hasM_snoc (k : Int) (l : List Mk) (j : Nat) (hj : j < l.length) : hasM k (l.take (j + 1)) = (hasM k (l.take j) || (l[j].sg == k)) := by
  rw [List.take_succ_eq_append_getElem hj, hasM_app]
  simp [hasM]
end Go.Proofs.YtgcccpmcbjfaaaaDoor

/- The unified form as texts and as lines: how it is written, how it is read; plain mathematics. -/
namespace Go.Proofs.YtgcccpmcbjfaaaaDoor
open Ln

/-- a count of lines behind a number -/
def ucT (p n : Int) : List UInt8 := if n = 1 then Lib.itoa p else Lib.itoa p ++ 44 :: Lib.itoa n
/-- the line that begins a hunk -/
def uhT (h : Hk) : List UInt8 := [64, 64, 32, 45] ++ (ucT h.A h.AN ++ ([32, 43] ++ (ucT h.B h.BN ++ [32, 64, 64])))
/-- a line of a hunk, as lines -/
def umL (m : Mk) : List (List UInt8) := lnL [UInt8.ofNat m.sg.toNat] m.tx
/-- a hunk, as lines -/
def uhL (h : Hk) : List (List UInt8) := (uhT h ++ [10]) :: h.ls.flatMap umL
/-- a patch, as lines -/
def upL (p : Pth) : List (List UInt8) := if p.hs = [] then [] else ([45, 45, 45, 32] ++ nameT p.old ++ [10]) :: ([43, 43, 43, 32] ++ nameT p.new ++ [10]) :: p.hs.flatMap uhL
/-- Print's text -/
def upT (p : Pth) : List UInt8 := if wrgP p = 0 then (upL p).flatten else []

/-- a text up to some bytes, and what is behind them -/
def cutS (x : List UInt8) : List UInt8 → Option (List UInt8 × List UInt8)
  | [] => if x.isPrefixOf [] = true then some ([], []) else none
  | c :: t => if x.isPrefixOf (c :: t) = true then some ([], (c :: t).drop x.length) else match cutS x t with
    | none => none
    | some (a, b) => some (c :: a, b)
/-- a number, and a count behind a comma -/
def cntP (s : List UInt8) : Option (Int × Int) := match spB isK s with
  | some (x, _, y) => if Pn.parseE x = 0 ∧ Pn.parseE y = 0 then some (Pn.parseV x, Pn.parseV y) else none
  | none => if Pn.parseE s = 0 then some (Pn.parseV s, 1) else none
/-- may that stand behind a hunk's head? -/
def tlB : List UInt8 → Bool
  | [] => true
  | c :: _ => c == 32
/-- a line that begins a hunk: A, AN, B, BN -/
def uhdP (s : List UInt8) : Option (Int × Int × Int × Int) :=
  if ([64, 64, 32, 45] : List UInt8).isPrefixOf s = true then match cutS [32, 43] (s.drop 4) with
    | none => none
    | some (o, r) => match cutS [32, 64, 64] r with
      | none => none
      | some (f, t) => if tlB t = true then match cntP o, cntP f with
        | some (A, AN), some (B, BN) => some (A, AN, B, BN)
        | _, _ => none else none
  else none
/-- how many old, how many new lines a line with a sign is -/
def tkO (c : UInt8) : Nat := if c = 43 then 0 else 1
def tkN (c : UInt8) : Nat := if c = 45 then 0 else 1
def okC (c : UInt8) : Bool := c == 32 || c == 45 || c == 43
/-- is a line the last one on each of its sides? -/
def uendB (c : UInt8) (a b : Nat) : Bool := (c == 43 || a == 0) && (c == 45 || b == 0)
/-- a line of a hunk, of which a old and b new lines are left -/
def ulnP (a b p : Nat) (ls : List (List UInt8)) : Except (Nat × Int) (Mk × Nat × List (List UInt8)) :=
  match nxt p ls with
  | .error e => .error e
  | .ok ([], _) => .error (p + 1, 3)
  | .ok (c :: t, r) => if okC c = true ∧ tkO c ≤ a ∧ tkN c ≤ b then
      if uendB c (a - tkO c) (b - tkN c) = true ∧ t ≠ [] ∧ pkM r = true then .ok (⟨c.toNat, t⟩, p + 2, r.tail) else .ok (⟨c.toNat, t ++ [10]⟩, p + 1, r)
    else .error (p + 1, 3)
def sgO (m : Mk) : Nat := if m.sg = 43 then 0 else 1
def sgN (m : Mk) : Nat := if m.sg = 45 then 0 else 1
/-- the lines of a hunk -/
def urdP : Nat → Nat → Nat → Nat → List (List UInt8) → Except (Nat × Int) (List Mk × Nat × List (List UInt8))
  | 0, _, _, p, ls => .ok ([], p, ls)
  | n + 1, a, b, p, ls => if a + b = 0 then .ok ([], p, ls) else match ulnP a b p ls with
    | .error e => .error e
    | .ok (m, p1, r) => match urdP n (a - sgO m) (b - sgN m) p1 r with
      | .error e => .error e
      | .ok (l, p2, r2) => .ok (m :: l, p2, r2)
/-- is no line changed? -/
def smB (l : List Mk) : Bool := l.all fun m => decide (m.sg = 32)
/-- a hunk; so many are ahead of it -/
def uhkP (k p : Nat) (ls : List (List UInt8)) : Except (Nat × Int) (Hk × Nat × List (List UInt8)) :=
  match nxt p ls with
  | .error e => .error e
  | .ok (s, r) => match uhdP s with
    | none => .error (p + 1, 3)
    | some (A, AN, B, BN) => if 4096 ≤ k then .error (p + 1, 9) else if A = 0 ∧ 0 < AN ∨ B = 0 ∧ 0 < BN then .error (p + 1, 2) else
      match urdP (AN.toNat + BN.toNat) AN.toNat BN.toNat (p + 1) r with
      | .error e => .error e
      | .ok (l, p1, r1) => if smB l = true then .error (p + 1, 50) else .ok (⟨A, AN, B, BN, l⟩, p1, r1)
/-- does the next line begin with these bytes? -/
def pkU (x : List UInt8) : List (List UInt8) → Bool
  | [] => false
  | s :: _ => x.isPrefixOf s
/-- the hunks of a patch, by as many steps as there are lines; x: the bytes by which a line shows that it begins one -/
def uhsP (x : List UInt8) : Nat → Nat → Nat → List (List UInt8) → Except (Nat × Int) (List Hk × Nat × List (List UInt8))
  | 0, _, p, _ => .error (p + 1, 1)
  | f + 1, k, p, ls => match uhkP k p ls with
    | .error e => .error e
    | .ok (h, p1, r) => if pkU x r = true then match uhsP x f (k + 1) p1 r with
        | .error e => .error e
        | .ok (l, p2, r2) => .ok (h :: l, p2, r2)
      else .ok ([h], p1, r)
/-- all patches -/
def upsP (x : List UInt8) : Nat → Nat → Nat → List (List UInt8) → Except (Nat × Int) (List Pth)
  | 0, _, _, _ => .ok []
  | f + 1, k, p, ls => if ls = [] then .ok [] else match namP [45, 45, 45, 32] p ls with
    | .error e => .error e
    | .ok (n1, r1) => if 64 ≤ k then .error (p + 1, 9) else match namP [43, 43, 43, 32] (p + 1) r1 with
      | .error e => .error e
      | .ok (n2, r2) => match uhsP x (r2.length + 1) 0 (p + 2) r2 with
        | .error e => .error e
        | .ok (hs, p3, r3) => match upsP x f (k + 1) p3 r3 with
          | .error e => .error e
          | .ok l => .ok (⟨n1, n2, hs⟩ :: l)
/-- a text is read -/
def unT (x t : List UInt8) : Except (Nat × Int) (List Pth) := if 1048576 < t.length then .error (0, 9) else upsP x (splitL t).length 0 0 (splitL t)
def atR : List UInt8 := [64, 64]
def atC : List UInt8 := [64, 64, 32, 45]
end Go.Proofs.YtgcccpmcbjfaaaaDoor

/- The unified form: hunks and patches are read as they were written; plain mathematics. -/
namespace Go.Proofs.YtgcccpmcbjfaaaaDoor
open Ln

theorem cutS_app {d : UInt8} {x o : List UInt8} (ho : ∀ c ∈ o, c ≠ d) (r : List UInt8) : cutS (d :: x) (o ++ ((d :: x) ++ r)) = some (o, r) := by
  induction o with
  | nil =>
    show cutS (d :: x) (d :: (x ++ r)) = some ([], r)
    unfold cutS
    rw [if_pos (by rw [List.isPrefixOf_iff_prefix]; exact List.prefix_append (d :: x) r)]
    simp
  | cons c o ih =>
    have hi := ih fun y hy => ho y (by simp [hy])
    show cutS (d :: x) (c :: (o ++ ((d :: x) ++ r))) = some (c :: o, r)
    unfold cutS
    rw [if_neg, hi]
    have hc := ho c (by simp)
    simp only [List.isPrefixOf, Bool.and_eq_true, beq_iff_eq]
    exact fun q => hc q.1.symm
theorem uc_bytes {p n : Int} (hp : 0 ≤ p) (hn : 0 ≤ n) : ∀ c ∈ ucT p n, numC c = true := by
  unfold ucT
  split
  · intro c hc
    simp [numC, itoa_dig hp c hc]
  · intro c hc
    rcases List.mem_append.1 hc with hc | hc
    · simp [numC, itoa_dig hp c hc]
    · rcases List.mem_cons.1 hc with rfl | hc
      · decide
      · simp [numC, itoa_dig hn c hc]
theorem num_blank {c : UInt8} (h : numC c = true) : c ≠ 32 := by
  intro e
  subst e
  exact absurd h (by decide)
theorem cnt_back {p n : Int} (hp : 0 ≤ p) (hb : p ≤ 2147483647) (hn : 0 ≤ n) (hm : n ≤ 2147483647) : cntP (ucT p n) = some (p, n) := by
  obtain ⟨e1, e2⟩ := parse_itoa_ok hp hb
  obtain ⟨e3, e4⟩ := parse_itoa_ok hn hm
  unfold ucT cntP
  by_cases h : n = 1
  · rw [if_pos h, spB_none fun c hc => (dig_facts (itoa_dig hp c hc)).2.1]
    simp only
    rw [if_pos e2, e1, h]
  · rw [if_neg h, spB_app (fun c hc => (dig_facts (itoa_dig hp c hc)).2.1) rfl]
    simp only
    rw [if_pos ⟨e2, e4⟩, e1, e3]
theorem rng_hi {h : Hk} (hr : rngB h = true) : h.AN ≤ 2147483647 ∧ h.BN ≤ 2147483647 := by
  simp [rngB, nat31] at hr
  omega
theorem uhd_back {h : Hk} (hr : rngB h = true) : uhdP (uhT h) = some (h.A, h.AN, h.B, h.BN) := by
  obtain ⟨r1, r2, r3, r4, r5, r6, _⟩ := rng_out hr
  obtain ⟨r7, r8⟩ := rng_hi hr
  unfold uhdP
  have e : uhT h = [64, 64, 32, 45] ++ (ucT h.A h.AN ++ ([32, 43] ++ (ucT h.B h.BN ++ [32, 64, 64]))) := rfl
  rw [if_pos (by rw [e, List.isPrefixOf_iff_prefix]; exact List.prefix_append _ _)]
  have e4 : (uhT h).drop 4 = ucT h.A h.AN ++ ([32, 43] ++ (ucT h.B h.BN ++ [32, 64, 64])) := rfl
  rw [e4, cutS_app (fun c hc => num_blank (uc_bytes r1 r3 c hc))]
  simp only
  have e5 : ucT h.B h.BN ++ [32, 64, 64] = ucT h.B h.BN ++ ([32, 64, 64] ++ []) := by simp
  rw [e5, cutS_app (fun c hc => num_blank (uc_bytes r4 r6 c hc))]
  simp only
  rw [if_pos (show tlB [] = true from rfl), cnt_back r1 r2 r3 r7, cnt_back r4 r5 r6 r8]
/-- what is known of a sign -/
theorem sgn_cases {s : Int} (h : okS s = true) : s = 32 ∨ s = 45 ∨ s = 43 := by
  simp [okS] at h
  omega
theorem um_first (l : List Mk) (hl : ∀ m ∈ l, okS m.sg = true) {rest : List (List UInt8)} (hr : pkM rest = false) : pkM (l.flatMap umL ++ rest) = false := by
  cases l with
  | nil => exact hr
  | cons m l =>
    have h : UInt8.ofNat m.sg.toNat ≠ 92 := by
      rcases sgn_cases (hl m (by simp)) with e | e | e <;> rw [e] <;> decide
    simp only [List.flatMap_cons, umL, lnL]
    split
    · exact pkM_first rfl h
    · exact pkM_first rfl h
theorem pk_len43 {m : Mk} (h : okS m.sg = true) (l : List Mk) : (pkL 43 (m :: l)).length = sgO m + (pkL 43 l).length := by
  unfold sgO
  simp only [pkL]
  by_cases e : m.sg = 43
  · rw [if_neg (fun q => q.1 e), if_pos e]
    omega
  · rw [if_pos ⟨e, h⟩, if_neg e, List.length_cons]
    omega
theorem pk_len45 {m : Mk} (h : okS m.sg = true) (l : List Mk) : (pkL 45 (m :: l)).length = sgN m + (pkL 45 l).length := by
  unfold sgN
  simp only [pkL]
  by_cases e : m.sg = 45
  · rw [if_neg (fun q => q.1 e), if_pos e]
    omega
  · rw [if_pos ⟨e, h⟩, if_neg e, List.length_cons]
    omega
theorem abl_43 {m : Mk} {l : List Mk} (h : okS m.sg = true) (ha : abl (pkL 43 (m :: l)) = true) : abl (pkL 43 l) = true ∧ (fdB m.tx = false → m.sg = 43 ∨ (pkL 43 l).length = 0) := by
  simp only [pkL] at ha
  by_cases e : m.sg = 43
  · rw [if_neg (fun q => q.1 e)] at ha
    exact ⟨ha, fun _ => .inl e⟩
  · rw [if_pos ⟨e, h⟩] at ha
    simp only [abl, Bool.and_eq_true, Bool.or_eq_true] at ha
    refine ⟨ha.2, fun hf => .inr ?_⟩
    rcases ha.1 with q | q
    · simpa using q
    · rw [hf] at q
      cases q
theorem abl_45 {m : Mk} {l : List Mk} (h : okS m.sg = true) (ha : abl (pkL 45 (m :: l)) = true) : abl (pkL 45 l) = true ∧ (fdB m.tx = false → m.sg = 45 ∨ (pkL 45 l).length = 0) := by
  simp only [pkL] at ha
  by_cases e : m.sg = 45
  · rw [if_neg (fun q => q.1 e)] at ha
    exact ⟨ha, fun _ => .inl e⟩
  · rw [if_pos ⟨e, h⟩] at ha
    simp only [abl, Bool.and_eq_true, Bool.or_eq_true] at ha
    refine ⟨ha.2, fun hf => .inr ?_⟩
    rcases ha.1 with q | q
    · simpa using q
    · rw [hf] at q
      cases q
theorem sgn_take {m : Mk} (h : okS m.sg = true) : okC (UInt8.ofNat m.sg.toNat) = true ∧ tkO (UInt8.ofNat m.sg.toNat) = sgO m ∧ tkN (UInt8.ofNat m.sg.toNat) = sgN m ∧ (((UInt8.ofNat m.sg.toNat).toNat : Nat) : Int) = m.sg ∧ ((UInt8.ofNat m.sg.toNat == 43) = decide (m.sg = 43)) ∧ ((UInt8.ofNat m.sg.toNat == 45) = decide (m.sg = 45)) ∧ UInt8.ofNat m.sg.toNat ≠ 10 := by
  unfold sgO sgN
  rcases sgn_cases h with e | e | e <;> rw [e] <;> decide
/-- a line is read as it was written -/
theorem uln_back {m : Mk} (hl : linB m.tx = true) (hs : okS m.sg = true) {a b : Nat} (h43 : fdB m.tx = false → m.sg = 43 ∨ a = 0) (h45 : fdB m.tx = false → m.sg = 45 ∨ b = 0) (p : Nat) {R : List (List UInt8)} (hR : pkM R = false) : ulnP (sgO m + a) (sgN m + b) p (umL m ++ R) = .ok (m, p + (umL m).length, R) := by
  obtain ⟨t1, t2, t3, t4, t5, t6, _⟩ := sgn_take hs
  obtain ⟨l1, l2⟩ := lin_no hl
  unfold umL lnL ulnP
  generalize UInt8.ofNat m.sg.toNat = c at t1 t2 t3 t4 t5 t6 ⊢
  by_cases hf : fdB m.tx = true
  · rw [if_pos hf]
    have e1 := fd_form hf
    have e2 : nxt p ([[c] ++ m.tx] ++ R) = .ok (c :: m.tx.dropLast, R) := by
      have := nxt_feed (s := c :: m.tx.dropLast) p R
      rw [List.cons_append, ← e1] at this
      exact this
    rw [e2]
    simp only
    rw [if_pos ⟨t1, by omega, by omega⟩, if_neg (fun q => by rw [hR] at q; exact absurd q.2.2 (by decide)), ← e1]
    have e3 : (⟨(c.toNat : Int), m.tx⟩ : Mk) = m := by rw [t4]
    rw [e3]
    rfl
  · rw [if_neg hf]
    have hf' : fdB m.tx = false := by simpa using hf
    have e2 : nxt p ([[c] ++ m.tx ++ [10], markT] ++ R) = .ok (c :: m.tx, markT :: R) := nxt_feed (s := c :: m.tx) p (markT :: R)
    rw [e2]
    simp only
    have e4 : uendB c (sgO m + a - tkO c) (sgN m + b - tkN c) = true := by
      rw [t2, t3, Nat.add_sub_cancel_left, Nat.add_sub_cancel_left]
      unfold uendB
      rw [t5, t6]
      simp only [Bool.and_eq_true, Bool.or_eq_true, decide_eq_true_eq, beq_iff_eq]
      exact ⟨h43 hf', h45 hf'⟩
    rw [if_pos ⟨t1, by omega, by omega⟩, if_pos ⟨e4, l1, rfl⟩]
    have e3 : (⟨(c.toNat : Int), m.tx⟩ : Mk) = m := by rw [t4]
    rw [e3]
    rfl
theorem urd_back (l : List Mk) : ∀ (n p : Nat) (rest : List (List UInt8)), (∀ m ∈ l, linB m.tx = true ∧ okS m.sg = true) → abl (pkL 43 l) = true → abl (pkL 45 l) = true → (pkL 43 l).length + (pkL 45 l).length ≤ n → pkM rest = false → urdP n (pkL 43 l).length (pkL 45 l).length p (l.flatMap umL ++ rest) = .ok (l, p + (l.flatMap umL).length, rest) := by
  induction l with
  | nil =>
    intro n p rest _ _ _ _ _
    cases n with
    | zero => rfl
    | succ n => rfl
  | cons m l ih =>
    intro n p rest hl h43 h45 hn hr
    obtain ⟨m1, m2⟩ := hl m (by simp)
    have hl2 : ∀ x ∈ l, linB x.tx = true ∧ okS x.sg = true := fun x hx => hl x (by simp [hx])
    obtain ⟨a1, a2⟩ := abl_43 m2 h43
    obtain ⟨b1, b2⟩ := abl_45 m2 h45
    have k43 := pk_len43 m2 l
    have k45 := pk_len45 m2 l
    have hs : 1 ≤ sgO m + sgN m := by
      unfold sgO sgN
      by_cases e : m.sg = 43
      · rw [if_neg (by omega : ¬ m.sg = 45)]
        omega
      · rw [if_neg e]
        omega
    cases n with
    | zero => omega
    | succ n =>
      rw [k43, k45] at hn ⊢
      simp only [urdP, List.flatMap_cons, List.append_assoc]
      rw [if_neg (by omega), uln_back m1 m2 a2 b2 p (um_first l (fun x hx => (hl2 x hx).2) hr)]
      simp only
      rw [Nat.add_sub_cancel_left, Nat.add_sub_cancel_left, ih n _ rest hl2 a1 b1 (by omega) hr]
      simp only [List.length_append]
      congr 3
      omega
theorem chk_sm {h : Hk} (hc : chkH h = 0) : smB h.ls = false := (chk_out hc).2.2.2.2
/-- a hunk is read as it was written -/
theorem uhk_back {h : Hk} (hc : chkH h = 0) {k : Nat} (hk : k < 4096) (p : Nat) {rest : List (List UInt8)} (hr : pkM rest = false) : uhkP k p (uhL h ++ rest) = .ok (h, p + (uhL h).length, rest) := by
  obtain ⟨c1, c2, c3, c4, c5⟩ := chk_out hc
  obtain ⟨r1, r2, r3, r4, r5, r6, r7, r8⟩ := rng_out c1
  obtain ⟨f1, f2, f3⟩ := (fld_iff h.ls).1 c2
  unfold uhkP uhL
  rw [List.cons_append, nxt_feed]
  simp only
  rw [uhd_back c1]
  simp only
  rw [if_neg (by omega), if_neg (by omega)]
  have e1 : h.AN.toNat = (pkL 43 h.ls).length := by
    have : h.AN = ((pkL 43 h.ls).length : Int) := c3
    omega
  have e2 : h.BN.toNat = (pkL 45 h.ls).length := by
    have : h.BN = ((pkL 45 h.ls).length : Int) := c4
    omega
  rw [e1, e2, urd_back h.ls _ (p + 1) rest f1 f2 f3 (Nat.le_refl _) hr]
  simp only
  rw [if_neg (by rw [chk_sm hc]; decide)]
  simp only [List.length_cons]
  congr 3
  omega
/-- a right patch that has hunks -/
structure Gu (p : Pth) : Prop where
  ne : p.hs ≠ []
  old : p.old.length ≤ 64
  new : p.new.length ≤ 64
  few : p.hs.length ≤ 4096
  gd : ∀ h ∈ p.hs, chkH h = 0
/-- the bytes by which a line shows that it begins a hunk -/
def Shw (x : List UInt8) : Prop := x = atR ∨ x = atC
theorem uh_pk (h : Hk) (r : List (List UInt8)) : pkM (uhL h ++ r) = false := pkM_first (c := 64) rfl (by decide)
theorem uh_show {x : List UInt8} (hx : Shw x) (h : Hk) (r : List (List UInt8)) : pkU x (uhL h ++ r) = true := by
  rcases hx with rfl | rfl <;> rfl
theorem uhs_back {x : List UInt8} (hx : Shw x) (hs : List Hk) : ∀ (f k p : Nat) (rest : List (List UInt8)), hs ≠ [] → (∀ h ∈ hs, chkH h = 0) → k + hs.length ≤ 4096 → hs.length ≤ f → pkM rest = false → pkU x rest = false → uhsP x f k p (hs.flatMap uhL ++ rest) = .ok (hs, p + (hs.flatMap uhL).length, rest) := by
  induction hs with
  | nil => intro f k p rest h; exact absurd rfl h
  | cons h hs ih =>
    intro f k p rest _ hg hk hf hb hr
    cases f with
    | zero => exact absurd hf (by simp)
    | succ f =>
      simp only [List.length_cons] at hk hf
      have hgh := hg h (by simp)
      simp only [List.flatMap_cons, List.append_assoc, uhsP]
      cases hs with
      | nil =>
        simp only [List.flatMap_nil, List.nil_append, List.append_nil]
        rw [uhk_back hgh (by omega) p hb]
        simp only
        rw [if_neg (by rw [hr]; decide)]
      | cons h2 hs =>
        have hi := ih f (k + 1) (p + (uhL h).length) rest (by simp) (fun y hy => hg y (by simp [hy])) (by omega) (by omega) hb hr
        have hb2 : pkM ((h2 :: hs).flatMap uhL ++ rest) = false := by
          rw [List.flatMap_cons, List.append_assoc]
          exact uh_pk h2 _
        rw [uhk_back hgh (by omega) p hb2]
        simp only
        have hp : pkU x ((h2 :: hs).flatMap uhL ++ rest) = true := by
          rw [List.flatMap_cons, List.append_assoc]
          exact uh_show hx h2 _
        rw [if_pos hp, hi]
        simp only [List.length_append]
        congr 3
        omega
theorem up_lines {p : Pth} (h : p.hs ≠ []) : upL p = ([45, 45, 45, 32] ++ nameT p.old ++ [10]) :: ([43, 43, 43, 32] ++ nameT p.new ++ [10]) :: p.hs.flatMap uhL := by
  unfold upL
  rw [if_neg h]
theorem ups_beh {x : List UInt8} (hx : Shw x) {L : List Pth} (h : ∀ p ∈ L, Gu p) : pkM (L.flatMap upL) = false ∧ pkU x (L.flatMap upL) = false := by
  cases L with
  | nil => exact ⟨rfl, rfl⟩
  | cons p L =>
    rw [List.flatMap_cons, up_lines (h p (by simp)).ne]
    refine ⟨rfl, ?_⟩
    rcases hx with rfl | rfl <;> rfl
theorem uhk_few (hs : List Hk) : hs.length ≤ (hs.flatMap uhL).length := by
  induction hs with
  | nil => exact Nat.le_refl _
  | cons h hs ih =>
    simp only [List.flatMap_cons, List.length_append, List.length_cons]
    have : 1 ≤ (uhL h).length := by simp [uhL]
    omega
theorem ups_back {x : List UInt8} (hx : Shw x) (L : List Pth) : ∀ (f k p : Nat), (∀ q ∈ L, Gu q) → k + L.length ≤ 64 → L.length ≤ f → upsP x f k p (L.flatMap upL) = .ok L := by
  induction L with
  | nil =>
    intro f k p _ _ _
    cases f with
    | zero => rfl
    | succ f => rfl
  | cons q L ih =>
    intro f k p hg hk hf
    cases f with
    | zero => exact absurd hf (by simp)
    | succ f =>
      have g := hg q (by simp)
      have hg2 : ∀ y ∈ L, Gu y := fun y hy => hg y (by simp [hy])
      simp only [List.length_cons] at hk hf
      simp only [List.flatMap_cons, upsP]
      rw [up_lines g.ne]
      rw [if_neg (by simp)]
      simp only [List.cons_append]
      have n1 := name_back (ah := [45, 45, 45, 32]) g.old rfl p (([43, 43, 43, 32] ++ nameT q.new ++ [10]) :: (q.hs.flatMap uhL ++ L.flatMap upL))
      have n2 := name_back (ah := [43, 43, 43, 32]) g.new rfl (p + 1) (q.hs.flatMap uhL ++ L.flatMap upL)
      simp only [List.cons_append, List.nil_append] at n1 n2 ⊢
      rw [n1]
      simp only
      rw [if_neg (by omega), n2]
      simp only
      obtain ⟨b1, b2⟩ := ups_beh hx hg2
      rw [uhs_back hx q.hs _ 0 (p + 2) _ g.ne g.gd (by have := g.few; omega) (by have := uhk_few q.hs; simp only [List.length_append]; omega) b1 b2]
      simp only
      rw [ih f (k + 1) _ hg2 (by omega) (by omega)]
theorem fed_uh {h : Hk} (hc : chkH h = 0) : Fed (uhL h) := by
  obtain ⟨c1, c2, c3, c4, c5⟩ := chk_out hc
  obtain ⟨r1, r2, r3, r4, r5, r6, r7, r8⟩ := rng_out c1
  have f1 := ((fld_iff h.ls).1 c2).1
  unfold uhL
  refine fed_cons ?_ ?_
  · intro c hc
    unfold uhT at hc
    simp only [List.mem_append, List.mem_cons, List.not_mem_nil, or_false] at hc
    rcases hc with (rfl | rfl | rfl | rfl) | hc | (rfl | rfl) | hc | rfl | rfl | rfl
    all_goals first
      | decide
      | exact (num_facts (uc_bytes r1 r3 c hc)).2.1
      | exact (num_facts (uc_bytes r4 r6 c hc)).2.1
  · intro s hs
    obtain ⟨m, hm, hs⟩ := List.mem_flatMap.1 hs
    obtain ⟨g1, g2⟩ := f1 m hm
    refine fed_line ?_ g1 s hs
    intro c hc
    rw [List.mem_singleton.1 hc]
    exact (sgn_take g2).2.2.2.2.2.2
theorem fed_ups {L : List Pth} (h : ∀ p ∈ L, Gu p) : Fed (L.flatMap upL) := by
  intro s hs
  obtain ⟨p, hp, hs⟩ := List.mem_flatMap.1 hs
  have g := h p hp
  rw [up_lines g.ne] at hs
  refine fed_cons ?_ (fed_cons ?_ ?_) s hs
  · intro c hc
    rcases List.mem_append.1 hc with hc | hc
    · exact (by decide : ∀ c ∈ ([45, 45, 45, 32] : List UInt8), c ≠ 10) c hc
    · exact name_plain _ c hc
  · intro c hc
    rcases List.mem_append.1 hc with hc | hc
    · exact (by decide : ∀ c ∈ ([43, 43, 43, 32] : List UInt8), c ≠ 10) c hc
    · exact name_plain _ c hc
  · intro y hy
    obtain ⟨k, hk, hy⟩ := List.mem_flatMap.1 hy
    exact fed_uh (g.gd k hk) y hy
/-- patches are read as they were written -/
theorem un_back {x : List UInt8} (hx : Shw x) {L : List Pth} (h : ∀ p ∈ L, Gu p) (hn : L.length ≤ 64) (hl : ((L.flatMap upL).flatten).length ≤ 1048576) : unT x (L.flatMap upL).flatten = .ok L := by
  unfold unT
  rw [if_neg (by omega), right_split _ (fed_check (fed_ups h))]
  refine ups_back hx L _ 0 0 h (by omega) ?_
  clear hn hl
  induction L with
  | nil => exact Nat.le_refl _
  | cons p L ih =>
    have := ih fun y hy => h y (by simp [hy])
    simp only [List.flatMap_cons, List.length_append, List.length_cons]
    rw [up_lines (h p (by simp)).ne]
    simp only [List.length_cons]
    omega
end Go.Proofs.YtgcccpmcbjfaaaaDoor
