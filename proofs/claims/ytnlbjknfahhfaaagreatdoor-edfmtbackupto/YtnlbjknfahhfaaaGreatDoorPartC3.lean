/-
  Texts that belong together, joined: EfShelfJ, HuIv, HuCn, HuOne, HuCh, HuGr, HuC7, EdRApp, HuC8, HuC9, HuMk, HuCa, HuLw, PcWk, PcKe.
-/
import Derived.Shelf.Strings.OnBuilder
import Derived.Shelf.Small.Strs
import Derived.Shelf.Small.Wraps
import Derived.Test.YtnlbjknfahhfaaaGreatDoorPartA1
import Derived.Test.YtnlbjknfahhfaaaGreatDoorProg
import Derived.Test.YtnlbjknfahhfaaaGreatDoorPartA4
import Derived.Test.YtnlbjknfahhfaaaGreatDoorPartA3
import Derived.Test.YtnlbjknfahhfaaaGreatDoorPartA5
import Derived.Test.YtnlbjknfahhfaaaGreatDoorPartA6
import Derived.Deep.CutRange

/- Contracts of the library at this program: the program bears the bodies that they speak of. Taken: strings_Join_none, strings_Join. -/
namespace Go.Proofs
open Go.Shelf
def Tryz.lays156_ren : Go.Shelf.Ren := ⟨fun | 156 => 34 | 165 => 61 | 166 => 24 | 169 => 28 | 240 => 46 | 241 => 89 | 276 => 76 | 277 => 121 | n => n, fun | 31 => 23 | 9 => 9 | 3 => 3 | 4 => 4 | 0 => 0 | 20 => 20 | 72 => 62 | 76 => 66 | 70 => 59 | 37 => 60 | 75 => 35 | 127 => 104 | 164 => 113 | 5 => 5 | 80 => 71 | n => n, fun | n => n⟩
theorem Tryz.lays156 : Go.Proofs.Lays.n156 Tryz.prog Tryz.lays156_ren := {
  mixed := by kernel_rfl
  f156 := Tryz.func34.trans (congrArg some (by kernel_rfl))
  f165 := Tryz.func61.trans (congrArg some (by kernel_rfl))
  f166 := Tryz.func24.trans (congrArg some (by kernel_rfl))
  f169 := Tryz.func28.trans (congrArg some (by kernel_rfl))
  f240 := Tryz.func46.trans (congrArg some (by kernel_rfl))
  f241 := Tryz.func89.trans (congrArg some (by kernel_rfl))
  f276 := Tryz.func76.trans (congrArg some (by kernel_rfl))
  f277 := Tryz.func121.trans (congrArg some (by kernel_rfl))
  t0 := Tryz.underlying0
  a0 := Tryz.isAgg0
  z0 := Tryz.sizeOf0
  v0 := Tryz.zeroValue0
  t3 := Tryz.underlying3
  a3 := Tryz.isAgg3
  z3 := Tryz.sizeOf3
  v3 := Tryz.zeroValue3
  t4 := Tryz.underlying4
  a4 := Tryz.isAgg4
  z4 := Tryz.sizeOf4
  v4 := Tryz.zeroValue4
  t9 := Tryz.underlying9
  a9 := Tryz.isAgg9
  z9 := Tryz.sizeOf9
  v9 := Tryz.zeroValue9
  t20 := Tryz.underlying20
  a20 := Tryz.isAgg20
  z20 := Tryz.sizeOf20
  v20 := Tryz.zeroValue20
  t31 := Tryz.underlying23
  a31 := Tryz.isAgg23
  z31 := Tryz.sizeOf23
  v31 := Tryz.zeroValue23
  t37 := Tryz.underlying60
  a37 := Tryz.isAgg60
  z37 := Tryz.sizeOf60
  v37 := Tryz.zeroValue60
  t70 := Tryz.underlying59
  a70 := Tryz.isAgg59
  z70 := Tryz.sizeOf59
  v70 := Tryz.zeroValue59
  t72 := Tryz.underlying62
  a72 := Tryz.isAgg62
  z72 := Tryz.sizeOf62
  v72 := Tryz.zeroValue62
  t75 := Tryz.underlying35
  a75 := Tryz.isAgg35
  z75 := Tryz.sizeOf35
  v75 := Tryz.zeroValue35
  t76 := Tryz.underlying66
  a76 := Tryz.isAgg66
  z76 := Tryz.sizeOf66
  v76 := Tryz.zeroValue66
  t127 := Tryz.underlying104
  a127 := Tryz.isAgg104
  z127 := Tryz.sizeOf104
  v127 := Tryz.zeroValue104
  t164 := Tryz.underlying113
  a164 := Tryz.isAgg113
  z164 := Tryz.sizeOf113
  v164 := Tryz.zeroValue113 }
theorem Tryz.Builder_Extra_156 : Builder.Extra Tryz.prog Tryz.lays156_ren := {
  sizeBuilder := by kernel_rfl
  liesBuilder := by kernel_rfl
  t5 := Tryz.underlying5
  a5 := Tryz.isAgg5
  z5 := Tryz.sizeOf5
  v5 := Tryz.zeroValue5
  infoByte := by kernel_rfl
  cellsByte := by kernel_rfl
  sizeByte := by kernel_rfl
  neB5 := by decide }
open Go.RowKit in
theorem Tryz.strings_Join_none (a : Option Addr) (c : Nat) (sep : ByteArray) (w : World) :
    Calls Tryz.prog 34 #[.slice a 0 c, .string sep] w fun e w' => e = .returned (.string ⟨#[]⟩) ∧ w' = w := Any.strings_Join_none Tryz.lays156 Tryz.Builder_Extra_156 a c sep w
open Go.RowKit in
theorem Tryz.strings_Join (bk o c : Nat) (xs : List ByteArray) (sep : ByteArray) (w : World) (hcells : ∀ (j : Nat) x, xs[j]? = some x → w.cell? ⟨bk, o + j, none⟩ = some (.string x)) (hbk : bk < w.heap.size) (hN : xs.length ≤ 140737488355328) (hcap : xs.length ≤ c) (hlen : (Lib.join (xs.map (·.data.toList)) sep.data.toList).length ≤ 140737488355328) :
    Calls Tryz.prog 34 #[.slice (some ⟨bk, o, none⟩) xs.length c, .string sep] w fun e w' => e = .returned (.string ⟨(Lib.join (xs.map (·.data.toList)) sep.data.toList).toArray⟩) ∧ Below w.heap.size w w' := Any.strings_Join Tryz.lays156 Tryz.Builder_Extra_156 bk o c xs sep w hcells hbk hN hcap hlen
end Go.Proofs

/- The reference's Invert of layer 11, walked. -/
set_option maxRecDepth 20000
namespace Go.Proofs.YtnlbjknfahhfaaaGreatDoor
open Go.RowKit

/-- two operations that yield values, whichever comes first -/
theorem go_two {P : Program} {S : World → Prop} {md : Region.Mode} {ops : Array Oper} {Q : Exit → Act → World → Prop} {fuel : Nat} {listed : Array Bool} {A : Act} {w : World}
    (i d : Nat) (op : Oper) (j e : Nat) (oq : Oper) (hi : ops[i]? = some op) (hd : op.dst = some d) (hj : ops[j]? = some oq) (he : oq.dst = some e) (hr : Region.ready md ops listed = [i, j]) (hwt : Region.wanted op (yielded ops A.tmps) = true) (hwq : Region.wanted oq (yielded ops A.tmps) = true)
    (vp : Value) (wp : World) (hp : (execOp A.eval op).run P w = .ok (.value vp) wp) (hSp : S wp)
    (vq : Value) (wq : World) (hq : (execOp A.eval oq).run P w = .ok (.value vq) wq) (hSq : S wq)
    (h : wpAnyH P md ops Q S fuel (listed.setIfInBounds i true) (A.put (some d) vp) wp)
    (h2 : wpAnyH P md ops Q S fuel (listed.setIfInBounds j true) (A.put (some e) vq) wq) :
    wpAnyH P md ops Q S (fuel + 1) listed A w := by
  refine wpAnyH_ready hr (by simp) (AllReadyH.cons hi (fun K hK => ?_) (AllReadyH.cons hj (fun K hK => ?_) AllReadyH.nil))
  · refine step_want hwt ?_
    unfold Oper.wp
    rw [hp, Oper.upon_value]
    exact hK.out _ _ hSp (fun _ => by rw [hd]; exact h)
  · refine step_want hwq ?_
    unfold Oper.wp
    rw [hq, Oper.upon_value]
    exact hK.out _ _ hSq (fun _ => by rw [he]; exact h2)
/-- append, run by itself -/
theorem exec_app {w w' : World} {T : TypeId} {v vx v' : Value} {op : Oper} (x y : Operand) (ho : op.op = .call { callee := .builtin .append, args := #[x, y], argTypes := #[T, T] }) {ev : Operand → Value} (hx : ev x = v) (hy : ev y = vx) (hr : (Builtin.append_ #[T, T] op.type #[v, vx]).run Tryz.prog w = .ok v' w') :
    (execOp ev op).run Tryz.prog w = .ok (.value v') w' := by
  simp [execOp, ho, resolve, invoke, builtin, hx, hy, hr, Result.andThen]
section
variable {w : World} {q : Hk} {ov ov' av av' : Value} {x x' y y' : List Mk} {u u' : World}
theorem own_kept {e : TypeId} {s B : Nat} {v : Value} {n : Nat} {xs : List Value} (ho : u.ownsRow B e s v n xs) {g : Option Nat} (hg : u.grownBy u' g) (hne : ∀ k, g = some k → v.ownBlock ≠ some k) : u'.ownsRow B e s v n xs := by
  refine ⟨ho.1, ?_⟩
  rcases ho.2 with q | ⟨b, cap, cur, rfl, q2, q3, q4⟩
  · exact .inl q
  · refine .inr ⟨b, cap, cur, rfl, q2, ?_, q4⟩
    rw [hg.block b (Array.getElem?_eq_some_iff.1 q3).1 (fun e => hne b e.symm rfl)]
    exact q3
theorem grown_then {r r' : Option Nat} {u'' : World} (h : u.grownBy u' r) (h' : u'.grownBy u'' r') (hr : r' = r ∨ ∃ k, r' = some k ∧ u.heap.size ≤ k) : u.grownBy u'' r := by
  refine ⟨h'.os.trans h.os, h'.tape.trans h.tape, h'.output.trans h.output, Nat.le_trans h.size h'.size, fun k hk hne => ?_⟩
  rw [h'.block k (Nat.lt_of_lt_of_le hk h.size) ?_]
  · exact h.block k hk hne
  · intro e
    rcases hr with hr | ⟨j, hr, hj⟩
    · exact hne (e.trans hr)
    · rw [hr] at e
      cases e
      omega
theorem grown_alloc {r : Option Nat} (h : u.grownBy u' r) (o : Obj) : u.grownBy (u'.alloc o) r :=
  ⟨h.os, h.tape, h.output, Nat.le_trans h.size (by simp), fun k hk hne => by rw [Below.heap_alloc _ _ _ (Nat.lt_of_lt_of_le hk h.size)]; exact h.block k hk hne⟩
theorem own_base {e : TypeId} {s B B' : Nat} {v : Value} {n : Nat} {xs : List Value} (ho : u.ownsRow B e s v n xs) (hB : B' ≤ B) : u.ownsRow B' e s v n xs := by
  refine ⟨ho.1, ?_⟩
  rcases ho.2 with q | ⟨b, cap, cur, rfl, q2, q3, q4⟩
  · exact .inl q
  · exact .inr ⟨b, cap, cur, rfl, by omega, q3, q4⟩
end
end Go.Proofs.YtnlbjknfahhfaaaGreatDoor

/- The reference's count of layer 11, walked. -/
set_option maxRecDepth 20000
namespace Go.Proofs.YtnlbjknfahhfaaaGreatDoor
open Go.RowKit

section
variable {u : World} {b : Nat} {A AN B BN : Int} {ls : List Mk} {v : Value}
end

end Go.Proofs.YtnlbjknfahhfaaaGreatDoor

/- The reference's one of layer 11, walked. -/
set_option maxRecDepth 20000
namespace Go.Proofs.YtnlbjknfahhfaaaGreatDoor
open Go.RowKit

/-- a change in a box -/
def chO (c : Ch) : Obj := .cells #[.int .i64 c.A, .int .i64 c.AN, .int .i64 c.B, .int .i64 c.BN] 48
def Cx (u : World) (b : Nat) (c : Ch) : Prop := u.heap[b]? = some (chO c)
section
variable {u u' : World} {b : Nat} {c : Ch}
theorem Cx.cells (q : Cx u b c) : u.cell? ⟨b, 0, none⟩ = some (.int .i64 c.A) ∧ u.cell? ⟨b, 1, none⟩ = some (.int .i64 c.AN) ∧ u.cell? ⟨b, 2, none⟩ = some (.int .i64 c.B) ∧ u.cell? ⟨b, 3, none⟩ = some (.int .i64 c.BN) := by
  unfold Cx chO at q
  refine ⟨?_, ?_, ?_, ?_⟩ <;> rw [Lib.cell_of_heap q] <;> rfl
theorem Cx.lt (q : Cx u b c) : b < u.heap.size := (Array.getElem?_eq_some_iff.1 q).1
theorem Cx.low (q : Cx u b c) (hg : Below u.heap.size u u') : Cx u' b c := (hg.block b q.lt).trans q
theorem Cx.new (w : World) (c : Ch) : Cx (w.alloc (chO c)) w.heap.size c := _root_.Go.heap_alloc_new w _
end

theorem exec_ixC {u : World} {b off n c i : Nat} (hi : i < n) {op : Oper} (x y : Operand) (ho : op.op = .indexAddr 25 x y) {ev : Operand → Value} (hx : ev x = .slice (some ⟨b, off, none⟩) n c) (hy : ev y = .int .i64 (i : Int)) :
    (execOp ev op).run Tryz.prog u = .ok (.value (.pointer (some ⟨b, off + i * 4, none⟩))) u := by
  have i1 : 0 ≤ (i : Int) := by omega
  have i2 : (i : Int) < (n : Int) := by omega
  simp only [execOp, ho, hx, hy]
  go_simp
theorem exec_ixT {u : World} {b off n c i : Nat} (hi : i < n) {op : Oper} (x y : Operand) (ho : op.op = .indexAddr 23 x y) {ev : Operand → Value} (hx : ev x = .slice (some ⟨b, off, none⟩) n c) (hy : ev y = .int .i64 (i : Int)) :
    (execOp ev op).run Tryz.prog u = .ok (.value (.pointer (some ⟨b, off + i, none⟩))) u := by
  have i1 : 0 ≤ (i : Int) := by omega
  have i2 : (i : Int) < (n : Int) := by omega
  simp only [execOp, ho, hx, hy]
  go_simp
theorem load_tx {u : World} {a : Addr} {s : ByteArray} (h : u.cell? a = some (.string s)) {op : Oper} (x : Operand) (ho : op.op = .load 9 x) {ev : Operand → Value} (hx : ev x = .pointer (some a)) :
    (execOp ev op).run Tryz.prog u = .ok (.value (.string s)) u := by
  simp only [execOp, ho, hx]
  go_simp
/-- the cells of a change in a row -/
def ChAt (u : World) (b o : Nat) (x : Ch) : Prop := u.cell? ⟨b, o, none⟩ = some (.int .i64 x.A) ∧ u.cell? ⟨b, o + 1, none⟩ = some (.int .i64 x.AN) ∧ u.cell? ⟨b, o + 2, none⟩ = some (.int .i64 x.B) ∧ u.cell? ⟨b, o + 3, none⟩ = some (.int .i64 x.BN)
theorem hcell_keep {u u' : World} (hB : Low u u') {q : Addr} {z : Value} (hz : u.cell? q = some z) : u'.cell? q = some z := (World.cell?_of_block (w := u) (Below.block hB _ (World.block_lt_of_cell? _ _ hz))).trans hz
theorem ChAt.low {u u' : World} {b o : Nat} {x : Ch} (h : ChAt u b o x) (hB : Low u u') : ChAt u' b o x := ⟨hcell_keep hB h.1, hcell_keep hB h.2.1, hcell_keep hB h.2.2.1, hcell_keep hB h.2.2.2⟩
theorem load_chR {u : World} {b o : Nat} {h : Ch} (q : ChAt u b o h) {op : Oper} (x : Operand) (ho : op.op = .load 48 x) {ev : Operand → Value} (hx : ev x = .pointer (some ⟨b, o, none⟩)) :
    (execOp ev op).run Tryz.prog u = .ok (.value (chV h)) u := by
  obtain ⟨d0, d1, d2, d3⟩ := q
  unfold chV
  simp only [execOp, ho, hx]
  go_simp
theorem exec_dec {u : World} {n : Nat} (hn : n ≤ 4611686018427387904) {op : Oper} (x y : Operand) (ho : op.op = .binOp .sub 3 x y 3) {ev : Operand → Value} (hx : ev x = .int .i64 ((n + 1 : Nat) : Int)) (hy : ev y = .int .i64 1) :
    (execOp ev op).run Tryz.prog u = .ok (.value (.int .i64 (n : Int))) u := by
  have e : ((n + 1 : Nat) : Int) - 1 = (n : Int) := by omega
  have e3 : IntKind.i64.wrap (n : Int) = (n : Int) := wrap_s (by omega) (by omega)
  have e4 : wrap64 (n : Int) = (n : Int) := by unfold wrap64; omega
  simp only [execOp, ho, hx, hy]
  go_simp
theorem exec_storeCh {u : World} {B : Nat} {c0 c : Ch} (q : Cx u B c0) : ∃ u', Cx u' B c ∧ u.grownBy u' (some B) ∧ ∀ {op : Oper} (x y : Operand) (_ : op.op = .store 48 x y) {ev : Operand → Value} (_ : ev x = .pointer (some ⟨B, 0, none⟩)) (_ : ev y = chV c), (execOp ev op).run Tryz.prog u = .ok .skip u' := by
  obtain ⟨d0, d1, d2, d3⟩ := q.cells
  have f : ∀ j, u.frozen? ⟨B, j, none⟩ = false := fun j => Lib.frozen_of_heap q j
  have f0 := f 0
  have f1 := f 1
  have f2 := f 2
  have f3 := f 3
  refine ⟨(((u.setCell ⟨B, 0, none⟩ (.int .i64 c.A)).setCell ⟨B, 1, none⟩ (.int .i64 c.AN)).setCell ⟨B, 2, none⟩ (.int .i64 c.B)).setCell ⟨B, 3, none⟩ (.int .i64 c.BN), ?_, ?_, ?_⟩
  · have s1 := heap_setCell_same u B 0 _ _ (.int .i64 c.A) q
    have s2 := heap_setCell_same _ B 1 _ _ (.int .i64 c.AN) s1
    have s3 := heap_setCell_same _ B 2 _ _ (.int .i64 c.B) s2
    exact heap_setCell_same _ B 3 _ _ (.int .i64 c.BN) s3
  · exact (((grown_set u B 0 _).trans (grown_set _ B 1 _)).trans (grown_set _ B 2 _)).trans (grown_set _ B 3 _)
  · intro op x y ho ev hx hy
    unfold chV at hy
    simp only [execOp, ho, hx, hy]
    go_simp
theorem Cx.keep {u u' : World} {b : Nat} {c : Ch} (q : Cx u b c) {g : Option Nat} (hg : u.grownBy u' g) (hr : some b ≠ g) : Cx u' b c := (hg.block b q.lt hr).trans q

theorem cut_step {t : List (List UInt8)} {p : Nat} {hi : Int} (h1 : (p : Int) < hi) (h2 : hi ≤ t.length) {s : List UInt8} (hs : t[p]'(by omega) = s) : cut t p (hi - p) = s :: cut t ((p + 1 : Nat) : Int) (hi - ((p + 1 : Nat) : Int)) := by
  simp only [cut, Int.toNat_natCast]
  rw [List.drop_eq_getElem_cons (by omega : p < t.length), hs, show (hi - (p : Int)).toNat = (hi - ((p + 1 : Nat) : Int)).toNat + 1 by omega, List.take_succ_cons]
theorem mks_cons (s : Int) (t : List UInt8) (x : List (List UInt8)) : mks s (t :: x) = ⟨s, t⟩ :: mks s x := rfl

end Go.Proofs.YtnlbjknfahhfaaaGreatDoor

/- The reference's Changes of layer 11, walked. -/
set_option maxRecDepth 20000
namespace Go.Proofs.YtnlbjknfahhfaaaGreatDoor
open Go.RowKit

/-- a last change whose numbers can be added to -/
def Hhd : List Ch → Prop
  | [] => True
  | c :: _ => (-1 ≤ c.A ∧ 0 ≤ c.AN ∧ c.A + c.AN ≤ 4398046511104) ∧ -1 ≤ c.B ∧ 0 ≤ c.BN ∧ c.B + c.BN ≤ 4398046511104
/-- how many lines hunks have -/
def tot : List Hk → Nat
  | [] => 0
  | h :: l => h.ls.length + tot l
/-- changes backwards as cells -/
def bch (r : List Ch) : List Value := chcells r.reverse
theorem bch_cons (c : Ch) (r : List Ch) : bch (c :: r) = bch r ++ chC c := by simp [bch, chcells]
theorem bch_length (r : List Ch) : (bch r).length = r.length * 4 := by simp [bch, chcells_length]
theorem bch_at (c : Ch) (r : List Ch) : (bch (c :: r))[r.length * 4]? = some (.int .i64 c.A) ∧ (bch (c :: r))[r.length * 4 + 1]? = some (.int .i64 c.AN) ∧ (bch (c :: r))[r.length * 4 + 2]? = some (.int .i64 c.B) ∧ (bch (c :: r))[r.length * 4 + 3]? = some (.int .i64 c.BN) := by
  have hl := bch_length r
  rw [bch_cons]
  refine ⟨?_, ?_, ?_, ?_⟩ <;> rw [List.getElem?_append_right (by omega)] <;> simp [hl, chC]
theorem bch_setA (c : Ch) (r : List Ch) (z : Int) : (bch (c :: r)).set (r.length * 4 + 1) (.int .i64 z) = bch (⟨c.A, z, c.B, c.BN⟩ :: r) := by
  have hl := bch_length r
  rw [bch_cons, bch_cons, List.set_append_right _ _ (by omega)]
  simp [hl, chC]
theorem bch_setB (c : Ch) (r : List Ch) (z : Int) : (bch (c :: r)).set (r.length * 4 + 3) (.int .i64 z) = bch (⟨c.A, c.AN, c.B, z⟩ :: r) := by
  have hl := bch_length r
  rw [bch_cons, bch_cons, List.set_append_right _ _ (by omega)]
  simp [hl, chC]
/-- a row that is not empty: where it lies -/
theorem hown_at {u : World} {B : Nat} {e : TypeId} {s : Nat} {oo : Option Addr} {n oc : Nat} {xs : List Value} (h : u.ownsRow B e s (.slice oo (n + 1) oc) (n + 1) xs) : ∃ g, oo = some ⟨g, 0, none⟩ := by
  rcases h.2 with ⟨_, h0⟩ | ⟨g, cap, cur, e, _⟩
  · omega
  · cases e
    exact ⟨g, rfl⟩
theorem opn_head (a b : Int) (r : List Ch) : ∃ c t, opn a b r = c :: t ∧ c.A + c.AN = a ∧ c.B + c.BN = b := by
  unfold opn
  cases r with
  | nil => exact ⟨_, _, rfl, by simp, by simp⟩
  | cons c r =>
    by_cases h : endsAt a b (c :: r) = true
    · rw [if_pos h]
      simp only [endsAt, Bool.and_eq_true, decide_eq_true_eq] at h
      exact ⟨c, r, rfl, h.1, h.2⟩
    · rw [if_neg h]
      exact ⟨_, _, rfl, by simp, by simp⟩

end Go.Proofs.YtnlbjknfahhfaaaGreatDoor

/- The reference's Group of layer 11, walked. -/
set_option maxRecDepth 20000
namespace Go.Proofs.YtnlbjknfahhfaaaGreatDoor
open Go.RowKit

theorem infoCs : (Tryz.prog.info? 25).map (fun i => (i.zero, i.size, i.bytes)) = some (some (.slice none 0 0), 1, 24) := by kernel_rfl
/-- groups of one's own: a row of rows of changes -/
structure Gr (w : World) (ov : Value) (G : List (List Ch × Value)) (u : World) : Prop where
  low : Below w.heap.size w u
  own : u.ownsRow w.heap.size 25 1 ov G.length (G.map (·.2))
  ins : ∀ x ∈ G, u.ownsRow w.heap.size 48 4 x.2 x.1.length (chcells x.1)
/-- the last row is none of the others -/
def Lst (G : List (List Ch × Value)) : Prop := ∀ P x, G = P ++ [x] → ∀ y ∈ P, ∀ b, x.2.ownBlock = some b → y.2.ownBlock ≠ some b
section
variable {w u u' : World} {ov ov' : Value} {G P : List (List Ch × Value)}
theorem Gr.nil (w : World) : Gr w (.slice none 0 0) [] w := ⟨Below.refl _ _, hnil_row _ _ _ _, fun _ h => by cases h⟩
theorem Gr.alloc (h : Gr w ov G u) (o : Obj) : Gr w ov G (u.alloc o) := ⟨h.low.alloc h.low.size o, h.own.alloc o, fun x hx => (h.ins x hx).alloc o⟩
theorem Gr.drewN (h : Gr w ov G u) (n : Nat) : Gr w ov G (u.drewN n) := ⟨Below.dN h.low n, h.own, h.ins⟩
theorem Gr.keep (h : Gr w ov G u) (hk : Below u.heap.size u u') : Gr w ov G u' := ⟨h.low.trans (hk.mono h.low.size), owns_keep h.own hk, fun x hx => owns_keep (h.ins x hx) hk⟩
/-- a group more -/
theorem Gr.more (h : Gr w ov G u) {g : List Ch} {gv : Value} (hgv : u.ownsRow w.heap.size 48 4 gv g.length (chcells g)) (hg : u.grownBy u' ov.ownBlock) (ho : u'.ownsRow w.heap.size 25 1 ov' (G.length + 1) (G.map (·.2) ++ [gv])) : Gr w ov' (G ++ [(g, gv)]) u' := by
  have key : ∀ {v : Value} {n : Nat} {xs : List Value}, u.ownsRow w.heap.size 48 4 v n xs → u'.ownsRow w.heap.size 48 4 v n xs := fun hv => own_kept hv hg (fun k hk => own_ne h.own hv (by decide) hk)
  refine ⟨h.low.grown hg h.low.size (fun j hj => owns_ge h.own hj), ?_, fun z hz => ?_⟩
  · rw [List.length_append, List.map_append]
    exact ho
  · rcases List.mem_append.1 hz with hz | hz
    · exact key (h.ins z hz)
    · rw [List.mem_singleton.1 hz]
      exact key hgv
/-- the last group, longer: its row has grown, and the row of rows names it -/
theorem Gr.last {g g' : List Ch} {gv gv' : Value} (h : Gr w ov (P ++ [(g, gv)]) u) (hL : Lst (P ++ [(g, gv)])) (hg : u.grownBy u' gv.ownBlock) (ho : u'.ownsRow w.heap.size 48 4 gv' g'.length (chcells g')) (hb : gv'.ownBlock = gv.ownBlock ∨ gv'.ownBlock = some u.heap.size) :
    ∃ q cap, ov = .slice (some ⟨q, 0, none⟩) (P.length + 1) cap ∧ u'.cell? ⟨q, P.length, none⟩ = some gv ∧ u'.frozen? ⟨q, P.length, none⟩ = false ∧ Gr w ov (P ++ [(g', gv')]) (u'.setCell ⟨q, P.length, none⟩ gv') ∧ Lst (P ++ [(g', gv')]) := by
  have hown := h.own
  rw [List.length_append, List.length_singleton] at hown
  have hgl := h.ins (g, gv) (by simp)
  obtain ⟨oo, oc, hov⟩ := (holds_of hown).form
  subst hov
  obtain ⟨q, rfl⟩ := hown_at hown
  have hown' := own_kept hown hg (fun k hk => own_ne hgl hown (by decide) hk)
  have hst := hown'.stored P.length gv'
  have hset : ((P ++ [(g, gv)]).map (·.2)).set P.length gv' = (P ++ [(g', gv')]).map (·.2) := by simp
  rw [hset] at hst
  have hlow : Below w.heap.size w u' := h.low.grown hg h.low.size (fun j hj => owns_ge hgl hj)
  refine ⟨q, oc, rfl, ?_, hown'.frozenAt _, ⟨hlow.grown hst.2 hlow.size (fun j hj => by cases hj; exact owns_ge hown rfl), ?_, ?_⟩, ?_⟩
  · rw [hown'.cellAt P.length (by omega)]
    simp
  · rw [List.length_append, List.length_singleton]
    exact hst.1
  · intro x hx
    have hqx : ∀ {v : Value} {n : Nat} {xs : List Value}, u'.ownsRow w.heap.size 48 4 v n xs → (u'.setCell ⟨q, P.length, none⟩ gv').ownsRow w.heap.size 48 4 v n xs := fun hv => own_kept hv hst.2 (fun k hk => own_ne hown' hv (by decide) hk)
    rcases List.mem_append.1 hx with hx | hx
    · exact hqx (own_kept (h.ins x (List.mem_append_left _ hx)) hg (fun k hk => hL P (g, gv) rfl x hx k hk))
    · rw [List.mem_singleton.1 hx]
      exact hqx ho
  · intro P' x' he y hy b' hb'
    have he2 := List.append_inj' he rfl
    obtain ⟨rfl, hx'⟩ := he2
    have hx2 : (g', gv') = x' := by simpa using hx'
    subst hx2
    rcases hb with hb | hb
    · rw [hb] at hb'
      exact hL P (g, gv) rfl y hy b' hb'
    · rw [hb] at hb'
      cases hb'
      intro e
      have := own_lt (h.ins y (List.mem_append_left _ hy)) e
      omega
end
theorem right_nums {fl : Bool} {p q n m : Int} {l : List Ch} (h : Right fl p q n m l) : ∀ c ∈ l, numB c = true := by
  induction l generalizing fl p q with
  | nil => intro c hc; cases hc
  | cons d l ih =>
    intro c hc
    rcases List.mem_cons.1 hc with rfl | hc
    · exact h.1.1
    · exact ih h.2 c hc
theorem load_chs {u : World} {a : Addr} {o : Option Addr} {n c : Nat} (h : u.cell? a = some (.slice o n c)) {op : Oper} (x : Operand) (ho : op.op = .load 25 x) {ev : Operand → Value} (hx : ev x = .pointer (some a)) :
    (execOp ev op).run Tryz.prog u = .ok (.value (.slice o n c)) u := by
  simp only [execOp, ho, hx]
  go_simp
theorem exec_storeG {u : World} {b j : Nat} (hf : u.frozen? ⟨b, j, none⟩ = false) {o n c} (hc : u.cell? ⟨b, j, none⟩ = some (.slice o n c)) {o' n' c'} {op : Oper} (x y : Operand) (ho : op.op = .store 25 x y) {ev : Operand → Value} (hx : ev x = .pointer (some ⟨b, j, none⟩)) (hy : ev y = .slice o' n' c') :
    (execOp ev op).run Tryz.prog u = .ok .skip (u.setCell ⟨b, j, none⟩ (.slice o' n' c')) := by
  simp only [execOp, ho, hx, hy]
  go_simp
theorem ch_row (w : World) (c : Ch) : Holds (w.alloc (chO c)) (.slice (some ⟨w.heap.size, 0, none⟩) 1 1) 1 (chcells [c]) := new_holds w #[.int .i64 c.A, .int .i64 c.AN, .int .i64 c.B, .int .i64 c.BN] 48 1 1 (by decide)
theorem ch_own (w : World) (B : Nat) (c : Ch) (hB : B ≤ w.heap.size) : (w.alloc (chO c)).ownsRow B 48 4 (.slice (some ⟨w.heap.size, 0, none⟩) 1 1) 1 (chcells [c]) := by
  refine ⟨rfl, .inr ⟨_, 1, #[.int .i64 c.A, .int .i64 c.AN, .int .i64 c.B, .int .i64 c.BN], rfl, hB, _root_.Go.heap_alloc_new w _, Nat.le_refl _, by decide, rfl, rfl⟩⟩
theorem map_split {G : List (List Ch × Value)} {gs : List (List Ch)} {g : List Ch} (h : G.map (·.1) = gs ++ [g]) : ∃ P gv, G = P ++ [(g, gv)] ∧ P.map (·.1) = gs := by
  rcases List.eq_nil_or_concat G with rfl | ⟨P, x, rfl⟩
  · have := congrArg List.length h
    simp at this
  · rw [List.concat_eq_append] at h ⊢
    rw [List.map_append] at h
    have h2 := List.append_inj' h rfl
    obtain ⟨gx, gv⟩ := x
    have h3 : gx = g := by simpa using h2.2
    subst h3
    exact ⟨P, gv, rfl, h2.1⟩

/-- is a change near the one ahead of it? -/
def nrB (ctx : Int) (l : List Ch) (i : Nat) (d : Ch) : Bool := match (l.take i).getLast? with
  | none => false
  | some c => decide (d.A - c.A - c.AN ≤ 2 * ctx)
theorem last_take {l : List Ch} {j : Nat} (hj : j < l.length) : (l.take (j + 1)).getLast? = some l[j] := by
  rw [List.take_succ_eq_append_getElem hj, List.getLast?_append]
  simp
theorem grp_take {ctx : Int} {l : List Ch} {i : Nat} (hi : i < l.length) : (nrB ctx l i l[i] = true → ∃ gs gl, grp ctx (l.take i) = gs ++ [gl] ∧ grp ctx (l.take (i + 1)) = gs ++ [gl ++ [l[i]]]) ∧ (nrB ctx l i l[i] = false → grp ctx (l.take (i + 1)) = grp ctx (l.take i) ++ [[l[i]]]) := by
  cases i with
  | zero =>
    refine ⟨fun h => by simp [nrB] at h, fun _ => ?_⟩
    rw [List.take_succ_eq_append_getElem hi]
    rfl
  | succ j =>
    have e1 : l.take (j + 1) = l.take j ++ [l[j]] := List.take_succ_eq_append_getElem (by omega)
    have e2 : l.take (j + 1 + 1) = l.take j ++ [l[j]] ++ [l[j + 1]] := by rw [List.take_succ_eq_append_getElem hi, e1]
    obtain ⟨gs, g, h1, h2⟩ := grp_snoc ctx (l.take j) l[j] l[j + 1]
    have hn : nrB ctx l (j + 1) l[j + 1] = decide (l[j + 1].A - l[j].A - l[j].AN ≤ 2 * ctx) := by
      unfold nrB
      rw [last_take (by omega)]
    rw [hn, e1, e2, h1, h2]
    refine ⟨fun h => ?_, fun h => ?_⟩
    · rw [if_pos (of_decide_eq_true h)]
      exact ⟨gs, g ++ [l[j]], rfl, rfl⟩
    · rw [if_neg (of_decide_eq_false h)]
theorem lst_more {G : List (List Ch × Value)} {u : World} {w : World} {ov : Value} (h : Gr w ov G u) {g : List Ch} {gv : Value} {b : Nat} (hb : gv.ownBlock = some b) (hs : u.heap.size ≤ b) : Lst (G ++ [(g, gv)]) := by
  intro P' x' he y hy b' hb'
  have he2 := List.append_inj' he rfl
  obtain ⟨rfl, hx'⟩ := he2
  have hx2 : (g, gv) = x' := by simpa using hx'
  subst hx2
  dsimp only at hb'
  rw [hb] at hb'
  cases hb'
  intro e
  have := own_lt (h.ins y hy) e
  omega

end Go.Proofs.YtnlbjknfahhfaaaGreatDoor

/- The code's Group of layer 11, walked. -/
set_option maxRecDepth 20000
namespace Go.Proofs.YtnlbjknfahhfaaaGreatDoor
open Go.RowKit

/-- the groups lie apart from one another -/
def Apt (G : List (List Ch × Value)) : Prop := G.Pairwise fun x y => ∀ b, x.2.ownBlock = some b → y.2.ownBlock ≠ some b
theorem apt_lst {G : List (List Ch × Value)} (h : Apt G) : Lst G := by
  intro P x he y hy b hb e
  subst he
  exact (List.pairwise_append.1 h).2.2 y hy x (by simp) b e hb
theorem apt_more {G : List (List Ch × Value)} (h : Apt G) (g : List Ch) : Apt (G ++ [(g, .slice none 0 0)]) := by
  refine List.pairwise_append.2 ⟨h, List.pairwise_singleton _ _, ?_⟩
  intro x _ y hy b _ e
  rw [List.mem_singleton.1 hy] at e
  cases e
theorem apt_last {P : List (List Ch × Value)} {g g' : List Ch} {gv gv' : Value} (h : Apt (P ++ [(g, gv)])) {w u : World} {ov : Value} (hG : Gr w ov (P ++ [(g, gv)]) u) (hb : gv'.ownBlock = gv.ownBlock ∨ gv'.ownBlock = some u.heap.size) : Apt (P ++ [(g', gv')]) := by
  obtain ⟨h1, _, h3⟩ := List.pairwise_append.1 h
  refine List.pairwise_append.2 ⟨h1, List.pairwise_singleton _ _, ?_⟩
  intro x hx y hy b hxb e
  rw [List.mem_singleton.1 hy] at e
  dsimp only at e
  rcases hb with hb | hb
  · rw [hb] at e
    exact h3 x hx (g, gv) (by simp) b hxb e
  · rw [hb] at e
    cases e
    have := own_lt (hG.ins x (List.mem_append_left _ hx)) hxb
    omega
theorem cx_ne {u : World} {b : Nat} {d : Ch} (h : Cx u b d) {B s n : Nat} {v : Value} {xs : List Value} (ho : u.ownsRow B 25 s v n xs) : v.ownBlock ≠ some b := by
  intro e
  rcases ho.2 with ⟨rfl, _⟩ | ⟨g, cap, cur, rfl, _, hg, _⟩
  · cases e
  · simp only [Value.ownBlock, Option.some.injEq] at e
    subst e
    unfold Cx chO at h
    rw [h] at hg
    simp at hg
theorem exec_nil {u : World} {a : Addr} {op : Oper} (x : Operand) (ho : op.op = .nilCheck x) {ev : Operand → Value} (hx : ev x = .pointer (some a)) : (execOp ev op).run Tryz.prog u = .ok (.value (.pointer (some a))) u := by
  simp only [execOp, ho, hx]
  go_simp
/-- behind the change ahead -/
def enL (l : List Ch) (i : Nat) : Int := match (l.take i).getLast? with
  | none => 0
  | some c => c.A + c.AN
theorem enL_succ {l : List Ch} {i : Nat} (hi : i < l.length) : enL l (i + 1) = l[i].A + l[i].AN := by
  unfold enL
  rw [last_take hi]
theorem nr_en {l : List Ch} {i : Nat} (hi : i < l.length) {ctx : Int} {d : Ch} : nrB ctx l i d = (decide (0 < i) && decide (d.A - enL l i ≤ 2 * ctx)) := by
  cases i with
  | zero => rfl
  | succ j =>
    unfold nrB enL
    rw [last_take (by omega), decide_eq_true (Nat.succ_pos j), Bool.true_and]
    dsimp only
    rw [show d.A - (l[j].A + l[j].AN) = d.A - l[j].A - l[j].AN by omega]
theorem enL_num {l : List Ch} (h : ∀ c ∈ l, numB c = true) {i : Nat} (hi : i ≤ l.length) : 0 ≤ enL l i ∧ enL l i ≤ 4294967296 := by
  cases i with
  | zero => exact ⟨by unfold enL; simp, by unfold enL; simp⟩
  | succ j =>
    rw [enL_succ (by omega)]
    have := (numB_iff l[j]).1 (h _ (List.getElem_mem _))
    omega
theorem nil_row1 (w : World) : Holds (w.alloc (.cells #[.slice none 0 0] 25)) (.slice (some ⟨w.heap.size, 0, none⟩) 1 1) 1 [.slice none 0 0] := new_holds w #[.slice none 0 0] 25 1 1 (by decide)

end Go.Proofs.YtnlbjknfahhfaaaGreatDoor

/- What a script makes of a text: the reference's Apply, walked. -/
set_option maxRecDepth 20000
namespace Go.Proofs.YtnlbjknfahhfaaaGreatDoor
open Go.RowKit
attribute [local simp] st_drew low_drew

theorem run_cut_to (A : List (List UInt8)) (ao : Option Addr) (cap : Nat) (i h : Int) (h0 : 0 ≤ i) (h1 : i ≤ h) (h2 : h ≤ A.length) (w : World) (hA : HS w (.slice ao A.length cap) A) :
    ∃ vo vc, (∀ u : World, (Instr.slice 23 (.slice ao A.length cap) (some (.int .i64 i)) (some (.int .i64 h)) none).run Tryz.prog u = .ok (.slice vo (cut A i (h - i)).length vc) u) ∧ (∀ u : World, HS u (.slice ao A.length cap) A → HS u (.slice vo (cut A i (h - i)).length vc) (cut A i (h - i))) := by
  obtain ⟨vs, h3, h4⟩ := run_cut A ao cap i (h - i) h0 (by omega) (by omega) w hA
  obtain ⟨vo, vc, rfl⟩ := Holds.form (h4 w hA)
  have e : i + (h - i) = h := by omega
  rw [e] at h3
  exact ⟨vo, vc, h3, h4⟩
theorem run_cut_end (A : List (List UInt8)) (ao : Option Addr) (cap : Nat) (i : Int) (h0 : 0 ≤ i) (h1 : i ≤ A.length) (w : World) (hA : HS w (.slice ao A.length cap) A) :
    ∃ vo vc, (∀ u : World, (Instr.slice 23 (.slice ao A.length cap) (some (.int .i64 i)) none none).run Tryz.prog u = .ok (.slice vo (cut A i (A.length - i)).length vc) u) ∧ (∀ u : World, HS u (.slice ao A.length cap) A → HS u (.slice vo (cut A i (A.length - i)).length vc) (cut A i (A.length - i))) := by
  obtain ⟨vo, vc, h3, h4⟩ := run_cut_to A ao cap i A.length h0 h1 (Int.le_refl _) w hA
  refine ⟨vo, vc, fun u => ?_, h4⟩
  rw [← h3 u]
  have hcap : A.length ≤ cap := by
    rcases hA with ⟨h, h3, _⟩ | ⟨ad, c, h, h3, _⟩
    · omega
    · cases h; exact h3
  rw [run_slice_l (P := Tryz.prog) u 23 ao A.length cap (by kernel_rfl) .i64 i h0 h1, run_slice_lh (P := Tryz.prog) u 23 ao A.length cap (by kernel_rfl) .i64 .i64 i A.length h0 h1 (by omega)]
  simp

theorem piecesL_length (a b n m : Int) (l : List Ch) : (piecesL a b n m l).length = l.length + 1 := by
  induction l generalizing a b with
  | nil => rfl
  | cons c l ih => simp [piecesL, ih]
theorem applyL_length (l : List Ch) (A B : List (List UInt8)) : (applyL l A B).length ≤ (l.length + 1) * (A.length + B.length) := by
  rw [← piecesL_length 0 0 A.length B.length l]
  unfold applyL
  generalize piecesL 0 0 A.length B.length l = ps
  induction ps with
  | nil => simp
  | cons x t ih =>
    have h1 : (pa A B x).length ≤ A.length + B.length := by simp [pa, cut]; omega
    simp only [List.flatMap_cons, List.length_append, List.length_cons]
    rw [Nat.add_mul]
    omega
/-- what the rest of a script makes -/
def restA (A B : List (List UInt8)) (a b : Int) (l : List Ch) : List (List UInt8) := (piecesL a b A.length B.length l).flatMap (pa A B)
theorem restA_cons (A B : List (List UInt8)) (a b : Int) (c : Ch) (l : List Ch) : restA A B a b (c :: l) = cut A a (c.A - a) ++ cut B c.B c.BN ++ restA A B (c.A + c.AN) (c.B + c.BN) l := by simp [restA, piecesL, pa]
theorem restA_nil (A B : List (List UInt8)) (a b : Int) : restA A B a b [] = cut A a (A.length - a) := by simp [restA, piecesL, pa, cut]

end Go.Proofs.YtnlbjknfahhfaaaGreatDoor

/- The code's closure that lays the lines of a hunk, walked: the hunk in a box of one's own. -/
set_option maxRecDepth 20000
namespace Go.Proofs.YtnlbjknfahhfaaaGreatDoor
open Go.RowKit

/-- boxed changes stay -/
def CK (u u' : World) : Prop := ∀ B c, Cx u B c → Cx u' B c
theorem ck_refl (u : World) : CK u u := fun _ _ h => h
theorem ck_trans {u u' u'' : World} (h : CK u u') (h' : CK u' u'') : CK u u'' := fun B c q => h' B c (h B c q)
theorem ck_low {u u' : World} (h : Below u.heap.size u u') : CK u u' := fun _ _ q => q.low h
section
variable {w u u' : World} {q : Hk} {ov ov' : Value} {x' : List Mk}
end
theorem pk_mks {no sg : Int} (t : List (List UInt8)) : pkL no (mks sg t) = if sg ≠ no ∧ okS sg = true then t else [] := by
  induction t with
  | nil => simp [mks, pkL]
  | cons s t ih =>
    rw [mks_cons, pkL, ih]
    split <;> rfl
theorem mks_length (sg : Int) (t : List (List UInt8)) : (mks sg t).length = t.length := by simp [mks]

end Go.Proofs.YtnlbjknfahhfaaaGreatDoor

/- The code's hunk of a group, layer 11, walked. -/
set_option maxRecDepth 20000
namespace Go.Proofs.YtnlbjknfahhfaaaGreatDoor
open Go.RowKit

theorem pk_add (no : Int) (x y : List Mk) : ((pkL no x).length : Int) + ((pkL no y).length : Int) = ((pkL no (x ++ y)).length : Int) := by
  rw [pkL_append, List.length_append]
  omega
theorem exec_subI {u : World} {p q : Int} (h : IntKind.i64.wrap (p - q) = p - q) {op : Oper} (x y : Operand) (ho : op.op = .binOp .sub 3 x y 3) {ev : Operand → Value} (hx : ev x = .int .i64 p) (hy : ev y = .int .i64 q) :
    (execOp ev op).run Tryz.prog u = .ok (.value (.int .i64 (p - q))) u := by
  simp only [execOp, ho, hx, hy]
  go_simp
theorem exec_storeI {u : World} {a : Addr} (hf : u.frozen? a = false) {z0 : Int} (hc : u.cell? a = some (.int .i64 z0)) {z : Int} {op : Oper} (x y : Operand) (ho : op.op = .store 3 x y) {ev : Operand → Value} (hx : ev x = .pointer (some a)) (hy : ev y = .int .i64 z) :
    (execOp ev op).run Tryz.prog u = .ok .skip (u.setCell a (.int .i64 z)) := by
  simp only [execOp, ho, hx, hy]
  go_simp

end Go.Proofs.YtnlbjknfahhfaaaGreatDoor

/- The reference's Make of layer 11, walked. -/
set_option maxRecDepth 20000
namespace Go.Proofs.YtnlbjknfahhfaaaGreatDoor
open Go.RowKit

/-- a group of the row, read -/
theorem Gr.at {w W u : World} {oo : Option Addr} {n oc : Nat} {G : List (List Ch × Value)} (h : Gr w (.slice oo n oc) G W) (hB : Below W.heap.size W u) {i : Nat} (hi : i < G.length) {g : List Ch} {gv : Value} (hg : G[i] = (g, gv)) : ∃ q, oo = some ⟨q, 0, none⟩ ∧ u.cell? ⟨q, i, none⟩ = some gv ∧ HCh u gv g := by
  have hh := holds_of h.own
  obtain ⟨b, off, c', hv, hb, hc⟩ := Holds.at hh (by simp; omega)
  rcases h.own.2 with ⟨_, h0⟩ | ⟨q, cap, cur, e, _⟩
  · omega
  · cases e
    cases hv
    refine ⟨_, rfl, ?_, ?_⟩
    · have h1 := hc i (by simpa using hi)
      rw [Nat.zero_add] at h1
      refine hcell_keep hB ?_
      rw [h1]
      simp [hg]
    · have hin := h.ins (g, gv) (by rw [← hg]; exact List.getElem_mem hi)
      exact HCh.keep (holds_of hin) hB (Nat.le_refl _)

end Go.Proofs.YtnlbjknfahhfaaaGreatDoor

/- The code's Make of layer 11, walked. -/
set_option maxRecDepth 20000
namespace Go.Proofs.YtnlbjknfahhfaaaGreatDoor
open Go.RowKit

end Go.Proofs.YtnlbjknfahhfaaaGreatDoor

/- The laws' own small functions of layer 11, walked: small, changed; the two texts of the chapter's first case. -/
set_option maxRecDepth 20000
namespace Go.Proofs.YtnlbjknfahhfaaaGreatDoor
open Go.RowKit

theorem cntC_le (l : List Mk) : cntC l ≤ l.length := by
  induction l with
  | nil => simp [cntC]
  | cons m l ih => simp only [cntC, List.length_cons]; split <;> omega

end Go.Proofs.YtnlbjknfahhfaaaGreatDoor

/- The package pieces: a piece as a value; Empty, UpTo, From, Keep, walked. -/
set_option maxRecDepth 20000
namespace Go.Proofs.YtnlbjknfahhfaaaGreatDoor
open Go.RowKit

/-- a piece as a value: x from a up to b, y from c up to d; the row of what is kept lies in block g -/
def pzV (xo : Option Addr) (nx xc : Nat) (yo : Option Addr) (ny yc : Nat) (c : Nat) (ko : Option Addr) (kc : Nat) : Value := .agg #[.slice xo nx xc, .slice yo ny yc, .int .i64 c, .slice ko nx kc]
structure Pz (W0 : World) (g : Nat) (x y : List Int) (a b c d : Nat) (xo : Option Addr) (nx xc : Nat) (yo : Option Addr) (ny yc : Nat) (ko : Option Addr) (kc : Nat) : Prop where
  eb : b = a + nx
  ed : d = c + ny
  bx : b ≤ x.length
  dy : d ≤ y.length
  hx : Holds W0 (.slice xo nx xc) nx (icells (sub x a b))
  hy : Holds W0 (.slice yo ny yc) ny (icells (sub y c d))
  hk : nx ≤ kc
  at' : 0 < nx → ko = some ⟨g, a, none⟩
section
variable {W0 : World} {g : Nat} {x y : List Int} {a b c d : Nat} {xo : Option Addr} {nx xc : Nat} {yo : Option Addr} {ny yc : Nat} {ko : Option Addr} {kc : Nat}
theorem Pz.from (h : Pz W0 g x y a b c d xo nx xc yo ny yc ko kc) {i j : Nat} (hi : i ≤ nx) (hj : j ≤ ny) : Pz W0 g x y (a + i) b (c + j) d (slF xo xc i) (nx - i) (xc - i) (slF yo yc j) (ny - j) (yc - j) (slF ko kc i) (kc - i) := by
  have e1 := h.eb
  have e2 := h.ed
  have e3 := h.hk
  refine ⟨by omega, by omega, h.bx, h.dy, ?_, ?_, by omega, fun h0 => ?_⟩
  · rw [← sub_drop]
    exact hold_from h.hx (by rw [sub_length x a b h.bx]; omega) hi
  · rw [← sub_drop]
    exact hold_from h.hy (by rw [sub_length y c d h.dy]; omega) hj
  · rw [h.at' (by omega), slF, if_neg (by omega), Option.map_some, add_none]
theorem Pz.to (h : Pz W0 g x y a b c d xo nx xc yo ny yc ko kc) {i j : Nat} (hi : i ≤ nx) (hj : j ≤ ny) : Pz W0 g x y a (a + i) c (c + j) xo i xc yo j yc ko kc := by
  have e1 := h.eb
  have e2 := h.ed
  have e3 := h.hk
  have e4 := h.bx
  have e5 := h.dy
  refine ⟨rfl, rfl, by omega, by omega, ?_, ?_, by omega, fun h0 => h.at' (by omega)⟩
  · rw [← sub_take x a b i (by omega)]
    exact hold_to h.hx (by rw [sub_length x a b h.bx]; omega) hi
  · rw [← sub_take y c d j (by omega)]
    exact hold_to h.hy (by rw [sub_length y c d h.dy]; omega) hj
end

theorem Empty_f (xo : Option Addr) (nx xc : Nat) (yo : Option Addr) (ny yc c : Nat) (ko : Option Addr) (kc : Nat) (w : World) (r : Bool) (hr : Hid (r = decide (nx = 0 ∨ ny = 0))) :
    Calls Tryz.prog 100 #[pzV xo nx xc yo ny yc c ko kc] w fun e w' => e = .returned (.bool r) ∧ Below w.heap.size w w' := by
  unfold pzV
  by_cases h0 : nx = 0
  · subst h0
    obtain rfl : r = true := by rw [hr.out]; simp
    clear hr
    go_enter Tryz.func100, Tryz.ntmps100
    go_wp2
    go_ret
    exact ⟨rfl, (Below.refl _ w).alloc (Nat.le_refl _) _⟩
  · have e1 : decide ((nx : Int) = 0) = false := decide_eq_false (by omega)
    have e2 : decide (nx = 0) = false := decide_eq_false (by omega)
    have e3 : ((nx : Int) == 0) = false := by simp; omega
    by_cases h1 : ny = 0
    · subst h1
      obtain rfl : r = true := by rw [hr.out]; simp
      clear hr h0
      go_enter Tryz.func100, Tryz.ntmps100
      go_wp2
      go_ret
      exact ⟨rfl, (Below.refl _ w).alloc (Nat.le_refl _) _⟩
    · have e4 : decide ((ny : Int) = 0) = false := decide_eq_false (by omega)
      have e6 : ((ny : Int) == 0) = false := by simp; omega
      have e5 : decide (ny = 0) = false := decide_eq_false (by omega)
      obtain rfl : r = false := by rw [hr.out]; simp [h0, h1]
      clear hr h0 h1
      go_enter Tryz.func100, Tryz.ntmps100
      go_wp2
      go_ret
      exact ⟨rfl, (Below.refl _ w).alloc (Nat.le_refl _) _⟩

set_option maxHeartbeats 2000000 in
theorem UpTo_f (xo : Option Addr) (nx xc : Nat) (yo : Option Addr) (ny yc c : Nat) (ko : Option Addr) (kc : Nat) (w : World) (i j : Nat) (hi : i ≤ nx) (hj : j ≤ ny) (hxc : nx ≤ xc) (hyc : ny ≤ yc) (hkc : nx ≤ kc) :
    Calls Tryz.prog 104 #[pzV xo nx xc yo ny yc c ko kc, .int .i64 (i : Int), .int .i64 (j : Int)] w fun e w' => e = .returned (pzV xo i xc yo j yc c ko kc) ∧ Below w.heap.size w w' := by
  unfold pzV
  have r1 := run_slT xo nx xc i hi hxc
  have r2 := run_slT yo ny yc j hj hyc
  have r3 := run_slT ko nx kc i hi hkc
  clear hi hj hxc hyc hkc
  go_enter Tryz.func104, Tryz.ntmps104
  go_wp2
  go_region
  go_wp2
  have k2 := alloc_second w (Obj.cells #[.slice xo nx xc, .slice yo ny yc, .int .i64 c, .slice ko nx kc] 183) (Obj.cells #[.slice xo i xc, .slice yo j yc, .int .i64 c, .slice ko i kc] 183)
  exact bodyPost_ret (v := .agg #[.slice xo i xc, .slice yo j yc, .int .i64 c, .slice ko i kc]) (results_cell_row rfl _ _ (w.heap.size + 1) 183 #[.slice xo i xc, .slice yo j yc, .int .i64 c, .slice ko i kc] (0, 0) _ rfl k2 Tryz.underlying183 rfl (by kernel_rfl)) rfl ⟨rfl, (((Below.refl _ w).alloc (Nat.le_refl _) _).alloc (by simp) _).drew⟩

set_option maxHeartbeats 2000000 in
theorem From_f (xo : Option Addr) (nx xc : Nat) (yo : Option Addr) (ny yc c : Nat) (ko : Option Addr) (kc : Nat) (w : World) (i j : Nat) (hi : i ≤ nx) (hj : j ≤ ny) (hxc : nx ≤ xc) (hyc : ny ≤ yc) (hkc : nx ≤ kc) (hc : c + j ≤ 1048576) :
    Calls Tryz.prog 105 #[pzV xo nx xc yo ny yc c ko kc, .int .i64 (i : Int), .int .i64 (j : Int)] w fun e w' => e = .returned (pzV (slF xo xc i) (nx - i) (xc - i) (slF yo yc j) (ny - j) (yc - j) (c + j) (slF ko kc i) (kc - i)) ∧ Below w.heap.size w w' := by
  unfold pzV
  have r1 := run_slF xo nx xc i hi hxc
  have r2 := run_slF yo ny yc j hj hyc
  have r3 := run_slF ko nx kc i hi hkc
  generalize slF xo xc i = xo' at *
  generalize slF yo yc j = yo' at *
  generalize slF ko kc i = ko' at *
  generalize nx - i = nx' at *
  generalize ny - j = ny' at *
  generalize xc - i = xc' at *
  generalize yc - j = yc' at *
  generalize kc - i = kc' at *
  obtain ⟨c', hc'⟩ : ∃ c', c + j = c' := ⟨_, rfl⟩
  have n1 : (c : Int) + (j : Int) = (c' : Int) := by omega
  rw [hc']
  clear hi hj hxc hyc hkc hc'
  go_enter Tryz.func105, Tryz.ntmps105
  go_wp2
  go_region
  go_wp2
  have k2 := alloc_second w (Obj.cells #[.slice xo nx xc, .slice yo ny yc, .int .i64 c, .slice ko nx kc] 183) (Obj.cells #[.slice xo' nx' xc', .slice yo' ny' yc', .int .i64 c', .slice ko' nx' kc'] 183)
  exact bodyPost_ret (v := .agg #[.slice xo' nx' xc', .slice yo' ny' yc', .int .i64 c', .slice ko' nx' kc']) (results_cell_row rfl _ _ (w.heap.size + 1) 183 #[.slice xo' nx' xc', .slice yo' ny' yc', .int .i64 c', .slice ko' nx' kc'] (0, 0) _ rfl k2 Tryz.underlying183 rfl (by kernel_rfl)) rfl ⟨rfl, (((Below.refl _ w).alloc (Nat.le_refl _) _).alloc (by simp) _).drew⟩

theorem fp_snoc (a c k : Nat) : fp a c (k + 1) = fp a c k ++ [⟨(a + k : Nat), (c + k : Nat)⟩] := by
  induction k generalizing a c with
  | zero => simp [fp]
  | succ k ih =>
    rw [fp, ih (a + 1) (c + 1), fp]
    simp
    omega
/-- a piece in a box -/
def Qbx (u : World) (B : Nat) (v0 v1 v2 v3 : Value) : Prop := u.heap[B]? = some (.cells #[v0, v1, v2, v3] 183 (0, 0))
section
variable {u u' : World} {B : Nat} {v0 v1 v2 v3 : Value}
theorem Qbx.cells (h : Qbx u B v0 v1 v2 v3) : u.cell? ⟨B, 0, none⟩ = some v0 ∧ u.cell? ⟨B, 1, none⟩ = some v1 ∧ u.cell? ⟨B, 2, none⟩ = some v2 ∧ u.cell? ⟨B, 3, none⟩ = some v3 := by
  refine ⟨?_, ?_, ?_, ?_⟩ <;> rw [Lib.cell_of_heap h] <;> rfl
theorem Qbx.frozen (h : Qbx u B v0 v1 v2 v3) (j : Nat) : u.frozen? ⟨B, j, none⟩ = false := by
  unfold World.frozen?
  rw [h]
  rfl
theorem Qbx.lt (h : Qbx u B v0 v1 v2 v3) : B < u.heap.size := (Array.getElem?_eq_some_iff.1 h).1
theorem Qbx.keep (h : Qbx u B v0 v1 v2 v3) {r : Option Nat} (hg : u.grownBy u' r) (hr : some B ≠ r) : Qbx u' B v0 v1 v2 v3 := (hg.block B h.lt hr).trans h
theorem Qbx.low (h : Qbx u B v0 v1 v2 v3) (hg : Below u.heap.size u u') : Qbx u' B v0 v1 v2 v3 := (hg.block B h.lt).trans h
theorem Qbx.drewN (h : Qbx u B v0 v1 v2 v3) (k : Nat) : Qbx (u.drewN k) B v0 v1 v2 v3 := h
theorem Qbx.new (w : World) (v0 v1 v2 v3 : Value) : Qbx (w.alloc (.cells #[v0, v1, v2, v3] 183)) w.heap.size v0 v1 v2 v3 := _root_.Go.heap_alloc_new w _
theorem Qbx.put (h : Qbx u B v0 v1 v2 v3) (z0 z1 z2 z3 : Value) : Qbx ((((u.setCell ⟨B, 0, none⟩ z0).setCell ⟨B, 1, none⟩ z1).setCell ⟨B, 2, none⟩ z2).setCell ⟨B, 3, none⟩ z3) B z0 z1 z2 z3 := by
  have s1 := heap_setCell_same u B 0 _ _ z0 h
  have s2 := heap_setCell_same _ B 1 _ _ z1 s1
  have s3 := heap_setCell_same _ B 2 _ _ z2 s2
  exact heap_setCell_same _ B 3 _ _ z3 s3
end
set_option maxHeartbeats 2000000 in
theorem Keep_f {W0 : World} {g N : Nat} (K : List Int) (xo : Option Addr) (nx xc : Nat) (yo : Option Addr) (ny yc a c : Nat) (ko : Option Addr) (kc : Nat) (w : World) (i j n : Nat) (hS : Ls W0 g N K w) (hko : 0 < nx → ko = some ⟨g, a, none⟩) (haN : a + nx ≤ N) (hN : N ≤ 1048576) (hin : i + n ≤ nx) (hc : c + j + n ≤ 1048576) :
    Calls Tryz.prog 106 #[pzV xo nx xc yo ny yc c ko kc, .int .i64 (i : Int), .int .i64 (j : Int), .int .i64 (n : Int)] w fun e w' => e = .returned (.tuple #[]) ∧ Ls W0 g N (wrk K (fp (a + i) (c + j) n)) w' ∧ w.grownBy w' (some g) := by
  unfold pzV
  have hgw := hS.lt
  have hS0 := hS.keep ((Below.refl _ w).alloc (Nat.le_refl _) (.cells #[.slice xo nx xc, .slice yo ny yc, .int .i64 c, .slice ko nx kc] 183))
  have hG0 := low_grown ((Below.refl _ w).alloc (Nat.le_refl _) (.cells #[.slice xo nx xc, .slice yo ny yc, .int .i64 c, .slice ko nx kc] 183)) (some g)
  have hQ0 := Qbx.new w (.slice xo nx xc) (.slice yo ny yc) (.int .i64 c) (.slice ko nx kc)
  go_enter Tryz.func106, Tryz.ntmps106
  go_wp2
  go_loopw [10] (fun iv wr => ∃ k : Nat, k ≤ n ∧ iv = .int .i64 k ∧ Ls W0 g N (wrk K (fp (a + i) (c + j) k)) wr ∧ w.grownBy wr (some g) ∧ Qbx wr w.heap.size (.slice xo nx xc) (.slice yo ny yc) (.int .i64 c) (.slice ko nx kc)) (fun iv _ => n - (intOf iv).toNat)
  case atStart => exact ⟨0, Nat.zero_le _, rfl, hS0, hG0, hQ0⟩
  case round =>
    clear hS0 hG0 hQ0 hS
    obtain ⟨k, hk, rfl, hS, hG, hQ⟩ := hrel
    by_cases hlt : k < n
    · obtain rfl := hko (by omega)
      obtain ⟨c0, c1, c2, c3⟩ := hQ.cells
      obtain ⟨q, hq⟩ : ∃ q, i + k = q := ⟨_, rfl⟩
      obtain ⟨z, hz⟩ : ∃ z, c + j + k = z := ⟨_, rfl⟩
      obtain ⟨z', hz'⟩ : ∃ z, c + j = z := ⟨_, rfl⟩
      have n1 : (i : Int) + (k : Int) = (q : Int) := by omega
      have n2 : (c : Int) + (j : Int) = (z' : Int) := by omega
      have n3 : (z' : Int) + (k : Int) = (z : Int) := by omega
      have i1 : 0 ≤ (q : Int) := by omega
      have i2 : (q : Int) < (nx : Int) := by omega
      have i3 : (k : Int) < (n : Int) := by omega
      have hl := hS.len
      have d0 := hS.at (List.getElem?_eq_getElem (i := a + q) (by omega))
      have f0 := hS.own.frozenAt (a + q)
      have hS1 := hS.set (a + q) (z : Int)
      have hG1 : w.grownBy (wr.setCell ⟨g, a + q, none⟩ (.int .i64 (z : Int))) (some g) := hG.trans (grown_set wr g (a + q) _)
      have hQ1 := hQ.keep (grown_set wr g (a + q) (.int .i64 (z : Int))) (by simp; omega)
      have HE : Hid ((wrk K (fp (a + i) (c + j) k)).set (a + q) (z : Int) = wrk K (fp (a + i) (c + j) (k + 1))) := (by
        show _ = _
        rw [fp_snoc, wrk_append, ← hz, ← hq]
        simp only [wrk, List.foldl_cons, List.foldl_nil]
        congr 1
        omega)
      generalize (wrk K (fp (a + i) (c + j) k))[a + q] = z0 at d0
      clear hl hq hz hz' hko
      go_wp2
      go_roundw
      case rel => exact ⟨k + 1, by omega, by go_num, by rw [← HE.out]; exact hS1, hG1, hQ1⟩
      case measure => simp [intOf]; omega
    · obtain rfl : k = n := by omega
      go_wp2
      go_end0
      exact ⟨rfl, hS, hG⟩
end Go.Proofs.YtnlbjknfahhfaaaGreatDoor

/- The package pieces: KeepEnds, walked. -/
set_option maxRecDepth 20000
namespace Go.Proofs.YtnlbjknfahhfaaaGreatDoor
open Go.RowKit
attribute [local simp] low_drew

/-- how long the slice in a cell is -/
def lenOf : Value → Nat | .slice _ n _ => n | _ => 0
/-- a piece is read as a whole -/
theorem load_pz {u : World} {B : Nat} {v0 v1 v2 v3 : Value} (h : Qbx u B v0 v1 v2 v3) {op : Oper} (x : Operand) (ho : op.op = .load 183 x) {ev : Operand → Value} (hx : ev x = .pointer (some ⟨B, 0, none⟩)) :
    (execOp ev op).run Tryz.prog u = .ok (.value (.agg #[v0, v1, v2, v3])) u := by
  obtain ⟨d0, d1, d2, d3⟩ := h.cells
  simp only [execOp, ho, hx]
  go_simp
theorem empty_held {u wr : World} {B : Nat} {xo : Option Addr} {nx xc : Nat} {yo : Option Addr} {ny yc c : Nat} {ko : Option Addr} {kc : Nat} {r : Bool} (h : Qbx u B (.slice xo nx xc) (.slice yo ny yc) (.int .i64 c) (.slice ko nx kc) ∧ Low wr u) (hr : Hid (r = decide (nx = 0 ∨ ny = 0)) ∨ False) :
    Calls Tryz.prog 100 #[.agg #[.slice xo nx xc, .slice yo ny yc, .int .i64 (c : Int), .slice ko nx kc]] u fun e w' => e = .returned (.bool r) ∧ (Qbx w' B (.slice xo nx xc) (.slice yo ny yc) (.int .i64 c) (.slice ko nx kc) ∧ Low wr w') := by
  refine (Empty_f xo nx xc yo ny yc c ko kc u r (hr.resolve_right id)).mono ?_
  rintro e w' ⟨rfl, hb⟩
  exact ⟨rfl, h.1.low hb, Below.trans h.2 (hb.mono (Below.size h.2))⟩
theorem Empty_low (xo : Option Addr) (nx xc : Nat) (yo : Option Addr) (ny yc c : Nat) (ko : Option Addr) (kc : Nat) (u W : World) (r : Bool) (hr : Hid (r = decide (nx = 0 ∨ ny = 0))) (hL : Low W u) :
    Calls Tryz.prog 100 #[.agg #[.slice xo nx xc, .slice yo ny yc, .int .i64 (c : Int), .slice ko nx kc]] u fun e w' => e = .returned (.bool r) ∧ Low W w' := by
  refine (Empty_f xo nx xc yo ny yc c ko kc u r hr).mono ?_
  rintro e w' ⟨rfl, hb⟩
  exact ⟨rfl, Below.trans hL (hb.mono (Below.size hL))⟩
theorem Keep_00 {W0 : World} {g N : Nat} (K : List Int) (xo : Option Addr) (nx xc : Nat) (yo : Option Addr) (ny yc a c : Nat) (ko : Option Addr) (kc : Nat) (w : World) (hS : Ls W0 g N K w) (hko : 0 < nx → ko = some ⟨g, a, none⟩) (haN : a + nx ≤ N) (hN : N ≤ 1048576) (hin : 1 ≤ nx) (hc : c + 1 ≤ 1048576) :
    Calls Tryz.prog 106 #[.agg #[.slice xo nx xc, .slice yo ny yc, .int .i64 (c : Int), .slice ko nx kc], .int .i64 0, .int .i64 0, .int .i64 1] w fun e w' => e = .returned (.tuple #[]) ∧ Ls W0 g N (wrk K (fp a c 1)) w' ∧ w.grownBy w' (some g) :=
  Keep_f K xo nx xc yo ny yc a c ko kc w 0 0 1 hS hko haN hN (by omega) (by omega)
theorem Keep_1 {W0 : World} {g N : Nat} (K : List Int) (xo : Option Addr) (nx xc : Nat) (yo : Option Addr) (ny yc a c : Nat) (ko : Option Addr) (kc : Nat) (w : World) (i j : Nat) (hS : Ls W0 g N K w) (hko : 0 < nx → ko = some ⟨g, a, none⟩) (haN : a + nx ≤ N) (hN : N ≤ 1048576) (hin : i + 1 ≤ nx) (hc : c + j + 1 ≤ 1048576) :
    Calls Tryz.prog 106 #[.agg #[.slice xo nx xc, .slice yo ny yc, .int .i64 (c : Int), .slice ko nx kc], .int .i64 (i : Int), .int .i64 (j : Int), .int .i64 1] w fun e w' => e = .returned (.tuple #[]) ∧ Ls W0 g N (wrk K (fp (a + i) (c + j) 1)) w' ∧ w.grownBy w' (some g) :=
  Keep_f K xo nx xc yo ny yc a c ko kc w i j 1 hS hko haN hN (by omega) (by omega)
theorem From_11 (xo : Option Addr) (nx xc : Nat) (yo : Option Addr) (ny yc c : Nat) (ko : Option Addr) (kc : Nat) (w : World) (hi : 1 ≤ nx) (hj : 1 ≤ ny) (hxc : nx ≤ xc) (hyc : ny ≤ yc) (hkc : nx ≤ kc) (hc : c + 1 ≤ 1048576) :
    Calls Tryz.prog 105 #[.agg #[.slice xo nx xc, .slice yo ny yc, .int .i64 (c : Int), .slice ko nx kc], .int .i64 1, .int .i64 1] w fun e w' => e = .returned (pzV (slF xo xc 1) (nx - 1) (xc - 1) (slF yo yc 1) (ny - 1) (yc - 1) (c + 1) (slF ko kc 1) (kc - 1)) ∧ Below w.heap.size w w' :=
  From_f xo nx xc yo ny yc c ko kc w 1 1 hi hj hxc hyc hkc hc
/-- the state of the walk -/
structure Ke (W0 w : World) (g : Nat) (x y K : List Int) (a b c d : Nat) (xo : Option Addr) (nx xc : Nat) (yo : Option Addr) (ny yc : Nat) (ko : Option Addr) (kc : Nat) (u : World) : Prop where
  pz : Pz W0 g x y a b c d xo nx xc yo ny yc ko kc
  ls : Ls W0 g x.length K u
  box : Qbx u w.heap.size (.slice xo nx xc) (.slice yo ny yc) (.int .i64 c) (.slice ko nx kc)
  res : Qbx u (w.heap.size + 1) (.slice none 0 0) (.slice none 0 0) (.int .i64 0) (.slice none 0 0)
  gr : w.grownBy u (some g)
section
variable {W0 w : World} {g : Nat} {x y K : List Int} {a b c d : Nat} {xo : Option Addr} {nx xc : Nat} {yo : Option Addr} {ny yc : Nat} {ko : Option Addr} {kc : Nat} {u u' : World}
theorem Ke.low (h : Ke W0 w g x y K a b c d xo nx xc yo ny yc ko kc u) (hb : Below u.heap.size u u') : Ke W0 w g x y K a b c d xo nx xc yo ny yc ko kc u' :=
  ⟨h.pz, h.ls.keep hb, h.box.low hb, h.res.low hb, h.gr.trans (low_grown hb _)⟩
/-- another row of what is kept -/
theorem Ke.kept (h : Ke W0 w g x y K a b c d xo nx xc yo ny yc ko kc u) (hw : g < w.heap.size) {K' : List Int} (hl : Ls W0 g x.length K' u') (hg : u.grownBy u' (some g)) : Ke W0 w g x y K' a b c d xo nx xc yo ny yc ko kc u' :=
  ⟨h.pz, hl, h.box.keep hg (by simp; omega), h.res.keep hg (by simp; omega), h.gr.trans hg⟩
/-- another piece in the box -/
theorem Ke.put (h : Ke W0 w g x y K a b c d xo nx xc yo ny yc ko kc u) (hw : g < w.heap.size) {a' b' c' d' : Nat} {xo' : Option Addr} {nx' xc' : Nat} {yo' : Option Addr} {ny' yc' : Nat} {ko' : Option Addr} {kc' : Nat} (hp : Pz W0 g x y a' b' c' d' xo' nx' xc' yo' ny' yc' ko' kc') :
    Ke W0 w g x y K a' b' c' d' xo' nx' xc' yo' ny' yc' ko' kc' ((((u.setCell ⟨w.heap.size, 0, none⟩ (.slice xo' nx' xc')).setCell ⟨w.heap.size, 1, none⟩ (.slice yo' ny' yc')).setCell ⟨w.heap.size, 2, none⟩ (.int .i64 (c' : Int))).setCell ⟨w.heap.size, 3, none⟩ (.slice ko' nx' kc')) := by
  have hg := h.ls.lt
  have hW := h.ls.low.size
  have hs := h.gr.size
  refine ⟨hp, ?_, h.box.put _ _ _ _, ?_, ?_⟩
  · exact ls_other (ls_other (ls_other (ls_other h.ls (by omega) (by omega) _ _) (by omega) (by omega) _ _) (by omega) (by omega) _ _) (by omega) (by omega) _ _
  · refine (heap_setCell_other _ _ _ _ (by simp)).trans ((heap_setCell_other _ _ _ _ (by simp)).trans ((heap_setCell_other _ _ _ _ (by simp)).trans ((heap_setCell_other _ _ _ _ (by simp)).trans h.res)))
  · exact grown_new (grown_new (grown_new (grown_new h.gr (Nat.le_refl _) _ _) (Nat.le_refl _) _ _) (Nat.le_refl _) _ _) (Nat.le_refl _) _ _
end

set_option maxRecDepth 10000 in
set_option maxHeartbeats 4000000 in
theorem KeepEnds_f (x y : List Int) (W0 w : World) (g : Nat) (K : List Int) (a b c d : Nat) (xo : Option Addr) (nx xc : Nat) (yo : Option Addr) (ny yc : Nat) (ko : Option Addr) (kc : Nat) (hp : Pz W0 g x y a b c d xo nx xc yo ny yc ko kc) (hxl : x.length ≤ 4096) (hyl : y.length ≤ 4096) (hS : Ls W0 g x.length K w) :
    Calls Tryz.prog 99 #[pzV xo nx xc yo ny yc c ko kc] w fun e w' => ∃ (k m : Nat) (xo' : Option Addr) (nx' xc' : Nat) (yo' : Option Addr) (ny' yc' : Nat) (ko' : Option Addr) (kc' : Nat), k = tf x y a b c d ∧ m = tb x y (a + k) b (c + k) d ∧ e = .returned (pzV xo' nx' xc' yo' ny' yc' (c + k) ko' kc') ∧ Pz W0 g x y (a + k) (b - m) (c + k) (d - m) xo' nx' xc' yo' ny' yc' ko' kc' ∧ Ls W0 g x.length (wrk K (fp a c k ++ bp b d m)) w' ∧ w.grownBy w' (some g) := by
  obtain ⟨k, hk⟩ : ∃ k, tf x y a b c d = k := ⟨_, rfl⟩
  obtain ⟨m, hm⟩ : ∃ m, tb x y (a + k) b (c + k) d = m := ⟨_, rfl⟩
  obtain ⟨KF, hKF⟩ : ∃ KF, wrk K (fp a c k) = KF := ⟨_, rfl⟩
  obtain ⟨A1, hA1⟩ : ∃ A1, a + k = A1 := ⟨_, rfl⟩
  obtain ⟨C1, hC1⟩ : ∃ C1, c + k = C1 := ⟨_, rfl⟩
  have HK : Hid (a + tf x y a b c d = A1 ∧ c + tf x y a b c d = C1 ∧ wrk K (fp a c (tf x y a b c d)) = KF) := ⟨by rw [hk, hA1], by rw [hk, hC1], by rw [hk, hKF]⟩
  have HM : Hid (tb x y A1 b C1 d = m) := (by rw [hA1, hC1] at hm; exact hm)
  have HFin : Hid (k = tf x y a b c d ∧ m = tb x y (a + k) b (c + k) d ∧ A1 = a + k ∧ C1 = c + k ∧ wrk KF (bp b d m) = wrk K (fp a c k ++ bp b d m)) := ⟨hk.symm, hm.symm, hA1.symm, hC1.symm, by rw [wrk_append, hKF]⟩
  have hml : m ≤ b - A1 ∧ m ≤ d - C1 := by rw [← HM.out]; exact tb_le x y A1 b C1 d
  clear hk hm hKF hA1 hC1
  have hgw := hS.lt.2
  have hT0 : Ke W0 w g x y K a b c d xo nx xc yo ny yc ko kc ((w.alloc (.cells #[.slice xo nx xc, .slice yo ny yc, .int .i64 c, .slice ko nx kc] 183)).alloc (.cells #[.slice none 0 0, .slice none 0 0, .int .i64 0, .slice none 0 0] 183)) :=
    ⟨hp, hS.keep (((Below.refl _ w).alloc (Nat.le_refl _) _).alloc (by simp) _), (Below.heap_alloc _ _ _ (by simp)).trans (_root_.Go.heap_alloc_new w _), alloc_second w _ _, low_grown (((Below.refl _ w).alloc (Nat.le_refl _) _).alloc (by simp) _) _⟩
  unfold pzV
  go_enter Tryz.func99, Tryz.ntmps99
  go_wp2
  go_loopw [] (fun wr => ∃ (a' c' : Nat) (K' : List Int) (xo : Option Addr) (nx xc : Nat) (yo : Option Addr) (ny yc : Nat) (ko : Option Addr) (kc : Nat), Ke W0 w g x y K' a' b c' d xo nx xc yo ny yc ko kc wr ∧ Hid (a' + tf x y a' b c' d = A1 ∧ c' + tf x y a' b c' d = C1 ∧ wrk K' (fp a' c' (tf x y a' b c' d)) = KF)) (fun wr => lenOf ((wr.cell? ⟨w.heap.size, 0, none⟩).getD undef))
  case atStart => exact ⟨a, c, K, xo, nx, xc, yo, ny, yc, ko, kc, hT0, HK⟩
  case round =>
    clear hT0 HK hS hp
    obtain ⟨a', c', K', xo, nx, xc, yo, ny, yc, ko, kc, hT, HV⟩ := hrel
    have hQ := hT.box
    obtain ⟨c0, c1, c2, c3⟩ := hQ.cells
    have hb := hT.pz.eb
    have hd := hT.pz.ed
    have hbx := hT.pz.bx
    have hdy := hT.pz.dy
    obtain ⟨r, hr⟩ : ∃ r, decide (a' < b ∧ c' < d ∧ x[a']? = y[c']?) = r := ⟨_, rfl⟩
    have HRr : Hid (decide (a' < b ∧ c' < d ∧ x[a']? = y[c']?) = r) := hr
    clear hr
    have hlow := hT.ls.low
    go_wp2_with fail
    go_cut [18] from 5 to 22 (fun z wz => z = .bool r ∧ Low wr wz)
    case first =>
      by_cases he : nx = 0 ∨ ny = 0
      · obtain rfl : r = false := by rw [← HRr.out]; simp; intro h1 h2; omega
        have HE : Hid (true = decide (nx = 0 ∨ ny = 0)) := (decide_eq_true he).symm
        clear HRr
        refine wp_region_noPanic ?_
        refine wp_region_held_drew (S := fun u => Qbx u w.heap.size (.slice xo nx xc) (.slice yo ny yc) (.int .i64 (c' : Int)) (.slice ko nx kc) ∧ Low wr u) (by kernel_rfl) ⟨hQ.drewN 1, Below.dN (Below.refl _ wr) 1⟩ (fun hHeld => ?_)
        refine go_take 0 5 _ (.agg #[.slice xo nx xc, .slice yo ny yc, .int .i64 (c' : Int), .slice ko nx kc]) rfl (by kernel_rfl) (by kernel_rfl) (by kernel_rfl) (by kernel_rfl) (fun _ _ _ h => h) (Or.inl ⟨by kernel_rfl, fun u hu => load_pz hu.1 (.tmp 1) (by kernel_rfl) (by kernel_rfl)⟩) hHeld ?_
        simp only [Act.put, List.setIfInBounds_toArray, List.set_cons_zero, List.set_cons_succ]
        refine go_callH 1 6 _ rfl (by kernel_rfl) (by kernel_rfl) (by kernel_rfl) 100 #[.tmp 5] #[183] (by kernel_rfl) #[.agg #[.slice xo nx xc, .slice yo ny yc, .int .i64 (c' : Int), .slice ko nx kc]] (by kernel_rfl) (enters_of Tryz.func100 (by kernel_rfl) rfl) (.bool true) (empty_held hHeld (.inl HE)) (fun u hHeld => ?_)
        simp only [Act.put, List.setIfInBounds_toArray, List.set_cons_zero, List.set_cons_succ]
        refine go_take 2 7 _ (.bool false) rfl (by kernel_rfl) (by kernel_rfl) (by kernel_rfl) (by kernel_rfl) (fun _ _ _ h => h) (Or.inl ⟨by kernel_rfl, fun u hu => by kernel_rfl⟩) hHeld ?_
        simp only [Act.put, List.setIfInBounds_toArray, List.set_cons_zero, List.set_cons_succ]
        refine go_take 3 8 _ (.bool false) rfl (by kernel_rfl) (by kernel_rfl) (by kernel_rfl) (by kernel_rfl) (fun _ _ _ h => h) (Or.inl ⟨by kernel_rfl, fun u hu => by kernel_rfl⟩) hHeld ?_
        simp only [Act.put, List.setIfInBounds_toArray, List.set_cons_zero, List.set_cons_succ]
        refine go_take 4 9 _ undef rfl (by kernel_rfl) (by kernel_rfl) (by kernel_rfl) (by kernel_rfl) (fun _ _ _ h => h) (Or.inr ⟨by kernel_rfl, rfl⟩) hHeld ?_
        simp only [Act.put, List.setIfInBounds_toArray, List.set_cons_zero, List.set_cons_succ]
        refine go_take 5 10 _ undef rfl (by kernel_rfl) (by kernel_rfl) (by kernel_rfl) (by kernel_rfl) (fun _ _ _ h => h) (Or.inr ⟨by kernel_rfl, rfl⟩) hHeld ?_
        simp only [Act.put, List.setIfInBounds_toArray, List.set_cons_zero, List.set_cons_succ]
        refine go_take 6 11 _ undef rfl (by kernel_rfl) (by kernel_rfl) (by kernel_rfl) (by kernel_rfl) (fun _ _ _ h => h) (Or.inr ⟨by kernel_rfl, rfl⟩) hHeld ?_
        simp only [Act.put, List.setIfInBounds_toArray, List.set_cons_zero, List.set_cons_succ]
        refine go_take 7 12 _ undef rfl (by kernel_rfl) (by kernel_rfl) (by kernel_rfl) (by kernel_rfl) (fun _ _ _ h => h) (Or.inr ⟨by kernel_rfl, rfl⟩) hHeld ?_
        simp only [Act.put, List.setIfInBounds_toArray, List.set_cons_zero, List.set_cons_succ]
        refine go_take 8 13 _ undef rfl (by kernel_rfl) (by kernel_rfl) (by kernel_rfl) (by kernel_rfl) (fun _ _ _ h => h) (Or.inr ⟨by kernel_rfl, rfl⟩) hHeld ?_
        simp only [Act.put, List.setIfInBounds_toArray, List.set_cons_zero, List.set_cons_succ]
        refine go_take 9 14 _ undef rfl (by kernel_rfl) (by kernel_rfl) (by kernel_rfl) (by kernel_rfl) (fun _ _ _ h => h) (Or.inr ⟨by kernel_rfl, rfl⟩) hHeld ?_
        simp only [Act.put, List.setIfInBounds_toArray, List.set_cons_zero, List.set_cons_succ]
        refine go_take 10 15 _ undef rfl (by kernel_rfl) (by kernel_rfl) (by kernel_rfl) (by kernel_rfl) (fun _ _ _ h => h) (Or.inr ⟨by kernel_rfl, rfl⟩) hHeld ?_
        simp only [Act.put, List.setIfInBounds_toArray, List.set_cons_zero, List.set_cons_succ]
        refine go_take 11 16 _ undef rfl (by kernel_rfl) (by kernel_rfl) (by kernel_rfl) (by kernel_rfl) (fun _ _ _ h => h) (Or.inr ⟨by kernel_rfl, rfl⟩) hHeld ?_
        simp only [Act.put, List.setIfInBounds_toArray, List.set_cons_zero, List.set_cons_succ]
        refine go_take 12 17 _ undef rfl (by kernel_rfl) (by kernel_rfl) (by kernel_rfl) (by kernel_rfl) (fun _ _ _ h => h) (Or.inr ⟨by kernel_rfl, rfl⟩) hHeld ?_
        simp only [Act.put, List.setIfInBounds_toArray, List.set_cons_zero, List.set_cons_succ]
        refine go_take 13 18 _ (.bool false) rfl (by kernel_rfl) (by kernel_rfl) (by kernel_rfl) (by kernel_rfl) (fun _ _ _ h => h) (Or.inl ⟨by kernel_rfl, fun u hu => by kernel_rfl⟩) hHeld ?_
        simp only [Act.put, List.setIfInBounds_toArray, List.set_cons_zero, List.set_cons_succ]
        refine wpAnyH_done (by kernel_rfl) ?_ _
        refine NoPanic.normal ?_
        go_wp2_with fail
        go_meet
        case rel => exact ⟨rfl, hHeld.2⟩
      · have h1 : 0 < nx := by omega
        have h2 : 0 < ny := by omega
        obtain ⟨xb, xf, xcc, hxe, hxb, hcx⟩ := Holds.at (Holds.keep hT.pz.hx (fun q hq => hlow.block q hq)) (by rw [icells_length, sub_length x a' b hbx]; omega)
        obtain ⟨yb, yf, ycc, hye, hyb, hcy⟩ := Holds.at (Holds.keep hT.pz.hy (fun q hq => hlow.block q hq)) (by rw [icells_length, sub_length y c' d hdy]; omega)
        cases hxe
        cases hye
        have x0 := hcx 0 (by rw [icells_length, sub_length x a' b hbx]; omega)
        have y0 := hcy 0 (by rw [icells_length, sub_length y c' d hdy]; omega)
        obtain ⟨zx, hzx⟩ : ∃ z, (sub x a' b)[0]? = some z := ⟨_, List.getElem?_eq_getElem (by rw [sub_length x a' b hbx]; omega)⟩
        obtain ⟨zy, hzy⟩ : ∃ z, (sub y c' d)[0]? = some z := ⟨_, List.getElem?_eq_getElem (by rw [sub_length y c' d hdy]; omega)⟩
        have x1 : wr.cell? ⟨xb, xf, none⟩ = some (.int .i64 zx) := by
          rw [Nat.add_zero] at x0
          rw [x0]
          have := hzx
          rw [List.getElem?_eq_getElem (by rw [sub_length x a' b hbx]; omega)] at this
          simp [icells, Option.some.inj this]
        have y1 : wr.cell? ⟨yb, yf, none⟩ = some (.int .i64 zy) := by
          rw [Nat.add_zero] at y0
          rw [y0]
          have := hzy
          rw [List.getElem?_eq_getElem (by rw [sub_length y c' d hdy]; omega)] at this
          simp [icells, Option.some.inj this]
        have e3 : (zx == zy) = r := by
          rw [← HRr.out, show x[a']? = some zx from (sub_some hzx).2, show y[c']? = some zy from (sub_some hzy).2]
          have q1 : a' < b := by omega
          have q2 : c' < d := by omega
          by_cases q : zx = zy <;> simp [q1, q2, q]
        have HE : Hid (false = decide (nx = 0 ∨ ny = 0)) := (decide_eq_false he).symm
        have i1 : (0 : Int) < (nx : Int) := by omega
        have i2 : (0 : Int) < (ny : Int) := by omega
        have hcs : ∀ u : World, Low wr u → u.cell? ⟨w.heap.size, 0, none⟩ = some (.slice (some ⟨xb, xf, none⟩) nx xc) ∧ u.cell? ⟨w.heap.size, 1, none⟩ = some (.slice (some ⟨yb, yf, none⟩) ny yc) ∧ u.cell? ⟨w.heap.size, 2, none⟩ = some (.int .i64 (c' : Int)) ∧ u.cell? ⟨w.heap.size, 3, none⟩ = some (.slice ko nx kc) ∧ u.cell? ⟨xb, xf, none⟩ = some (.int .i64 zx) ∧ u.cell? ⟨yb, yf, none⟩ = some (.int .i64 zy) := fun u hu => by
          obtain ⟨d0, d1, d2, d3⟩ := (hQ.low hu).cells
          exact ⟨d0, d1, d2, d3, cell_low hu x1, cell_low hu y1⟩
        have hLw : Low wr wr := Below.refl _ _
        clear x0 y0 hcx hcy hzx hzy HRr hxb hyb
        go_region_held3 (fun u => u.cell? ⟨w.heap.size, 0, none⟩ = some (.slice (some ⟨xb, xf, none⟩) nx xc) ∧ u.cell? ⟨w.heap.size, 1, none⟩ = some (.slice (some ⟨yb, yf, none⟩) ny yc) ∧ u.cell? ⟨w.heap.size, 2, none⟩ = some (.int .i64 (c' : Int)) ∧ u.cell? ⟨w.heap.size, 3, none⟩ = some (.slice ko nx kc) ∧ u.cell? ⟨xb, xf, none⟩ = some (.int .i64 zx) ∧ u.cell? ⟨yb, yf, none⟩ = some (.int .i64 zy) ∧ Low wr u) (go_keep)
          (first | (go_at_call 100; refine (Empty_low (some ⟨xb, xf, none⟩) nx xc (some ⟨yb, yf, none⟩) ny yc c' ko kc _ wr false HE (by first | assumption | (simp [*]; done))).mono ?_; rintro e wd ⟨rfl, hlw⟩; obtain ⟨g0, g1, g2, g3, g4, g5⟩ := hcs wd hlw))
        go_wp2
        go_meet
        case rel => exact ⟨rfl, by first | assumption | (simp [*]; done)⟩
    case rest =>
      obtain ⟨rfl, hLz⟩ := hcut
      have hTz := hT.low hLz
      have cw := c0
      clear c0 c1 c2 c3 hT hlow hQ hLz
      generalize wc = u0 at hTz ⊢
      obtain ⟨c0, c1, c2, c3⟩ := hTz.box.cells
      cases r with
      | true =>
        have hh := of_decide_eq_true HRr.out
        obtain ⟨h1, h2, h3⟩ := hh
        have HV2 : Hid (a' + 1 + tf x y (a' + 1) b (c' + 1) d = A1 ∧ c' + 1 + tf x y (a' + 1) b (c' + 1) d = C1 ∧ wrk (wrk K' (fp a' c' 1)) (fp (a' + 1) (c' + 1) (tf x y (a' + 1) b (c' + 1) d)) = KF) := (by
          have := HV.out
          rw [tf_eq, if_pos ⟨h1, h2, h3⟩] at this
          obtain ⟨q1, q2, q3⟩ := this
          refine ⟨by omega, by omega, ?_⟩
          rw [← q3, ← wrk_append]
          rfl)
        clear HV HRr h3
        have hkk := hTz.pz.hk
        have hxk := hold_cap hTz.pz.hx
        have hyk := hold_cap hTz.pz.hy
        go_wp2_with fail
        refine (Keep_00 K' xo nx xc yo ny yc a' c' ko kc u0 hTz.ls hTz.pz.at' (by omega) (by omega) (by omega) (by omega)).mono ?_
        rintro e u1 ⟨rfl, hS1, hG1⟩
        have hT1 := hTz.kept hgw hS1 hG1
        clear hTz c0 c1 c2 c3 hS1 hG1
        obtain ⟨c0, c1, c2, c3⟩ := hT1.box.cells
        go_wp2_with fail
        refine (From_11 xo nx xc yo ny yc c' ko kc u1 (by omega) (by omega) hxk hyk hkk (by omega)).mono ?_
        rintro e u2 ⟨rfl, hB2⟩
        have hT2 := hT1.low hB2
        clear hT1 c0 c1 c2 c3 hB2
        obtain ⟨c0, c1, c2, c3⟩ := hT2.box.cells
        have f0 := hT2.box.frozen
        have hT3 := hT2.put hgw (hT2.pz.from (i := 1) (j := 1) (by omega) (by omega))
        unfold pzV
        go_wp2
        go_roundw
        case rel => exact ⟨a' + 1, c' + 1, _, _, _, _, _, _, _, _, _, hT3, HV2⟩
        case measure =>
          refine Nat.lt_of_le_of_lt (Nat.le_of_eq (congrArg (fun o => lenOf (Option.getD o undef)) hT3.box.cells.1)) ?_
          rw [cw]
          simp [lenOf]
          omega
      | false =>
        have hh := of_decide_eq_false HRr.out
        have hz : tf x y a' b c' d = 0 := by rw [tf_eq, if_neg hh]
        obtain ⟨q1, q2, q3⟩ := HV.out
        rw [hz] at q1 q2 q3
        obtain rfl : A1 = a' := by omega
        obtain rfl : C1 = c' := by omega
        have q4 : KF = K' := q3.symm
        subst q4
        clear hh hz q1 q2 q3 HV HRr cw c0 c1 c2 c3 hb hd hbx hdy
        have HM0 : Hid (b - tb x y A1 b C1 d = b - m ∧ d - tb x y A1 b C1 d = d - m ∧ wrk KF (bp b d (tb x y A1 b C1 d)) = wrk KF (bp b d m)) := (by rw [HM.out]; exact ⟨rfl, rfl, rfl⟩)
        go_wp2
        go_loopw [] (fun wr => ∃ (b' d' : Nat) (K2 : List Int) (xo : Option Addr) (nx xc : Nat) (yo : Option Addr) (ny yc : Nat) (ko : Option Addr) (kc : Nat), Ke W0 w g x y K2 A1 b' C1 d' xo nx xc yo ny yc ko kc wr ∧ Hid (b' - tb x y A1 b' C1 d' = b - m ∧ d' - tb x y A1 b' C1 d' = d - m ∧ wrk K2 (bp b' d' (tb x y A1 b' C1 d')) = wrk KF (bp b d m))) (fun wr => lenOf ((wr.cell? ⟨w.heap.size, 0, none⟩).getD undef))
        case atStart => exact ⟨b, d, KF, xo, nx, xc, yo, ny, yc, ko, kc, hTz, HM0⟩
        case round =>
          clear hTz HM0
          obtain ⟨b', d', K2, xo, nx, xc, yo, ny, yc, ko, kc, hT, HV⟩ := hrel
          have hQ := hT.box
          obtain ⟨c0, c1, c2, c3⟩ := hQ.cells
          have hb := hT.pz.eb
          have hd := hT.pz.ed
          have hbx := hT.pz.bx
          have hdy := hT.pz.dy
          obtain ⟨r, hr⟩ : ∃ r, decide (A1 < b' ∧ C1 < d' ∧ x[b' - 1]? = y[d' - 1]?) = r := ⟨_, rfl⟩
          have HRr : Hid (decide (A1 < b' ∧ C1 < d' ∧ x[b' - 1]? = y[d' - 1]?) = r) := hr
          clear hr
          have hlow := hT.ls.low
          go_wp2_with fail
          go_cut [44] from 23 to 60 (fun z wz => z = .bool r ∧ Low wr wz)
          case first =>
            by_cases he : nx = 0 ∨ ny = 0
            · obtain rfl : r = false := by rw [← HRr.out]; simp; intro h1 h2; omega
              have HE : Hid (true = decide (nx = 0 ∨ ny = 0)) := (decide_eq_true he).symm
              clear HRr
              refine wp_region_noPanic ?_
              refine wp_region_held_drew (S := fun u => Qbx u w.heap.size (.slice xo nx xc) (.slice yo ny yc) (.int .i64 (C1 : Int)) (.slice ko nx kc) ∧ Low wr u) (by kernel_rfl) ⟨hQ.drewN 1, Below.dN (Below.refl _ wr) 1⟩ (fun hHeld => ?_)
              refine go_take 0 23 _ (.agg #[.slice xo nx xc, .slice yo ny yc, .int .i64 (C1 : Int), .slice ko nx kc]) rfl (by kernel_rfl) (by kernel_rfl) (by kernel_rfl) (by kernel_rfl) (fun _ _ _ h => h) (Or.inl ⟨by kernel_rfl, fun u hu => load_pz hu.1 (.tmp 1) (by kernel_rfl) (by kernel_rfl)⟩) hHeld ?_
              simp only [Act.put, List.setIfInBounds_toArray, List.set_cons_zero, List.set_cons_succ]
              refine go_callH 1 24 _ rfl (by kernel_rfl) (by kernel_rfl) (by kernel_rfl) 100 #[.tmp 23] #[183] (by kernel_rfl) #[.agg #[.slice xo nx xc, .slice yo ny yc, .int .i64 (C1 : Int), .slice ko nx kc]] (by kernel_rfl) (enters_of Tryz.func100 (by kernel_rfl) rfl) (.bool true) (empty_held hHeld (.inl HE)) (fun u hHeld => ?_)
              simp only [Act.put, List.setIfInBounds_toArray, List.set_cons_zero, List.set_cons_succ]
              refine go_take 2 25 _ (.bool false) rfl (by kernel_rfl) (by kernel_rfl) (by kernel_rfl) (by kernel_rfl) (fun _ _ _ h => h) (Or.inl ⟨by kernel_rfl, fun u hu => by kernel_rfl⟩) hHeld ?_
              simp only [Act.put, List.setIfInBounds_toArray, List.set_cons_zero, List.set_cons_succ]
              refine go_take 3 26 _ (.bool false) rfl (by kernel_rfl) (by kernel_rfl) (by kernel_rfl) (by kernel_rfl) (fun _ _ _ h => h) (Or.inl ⟨by kernel_rfl, fun u hu => by kernel_rfl⟩) hHeld ?_
              simp only [Act.put, List.setIfInBounds_toArray, List.set_cons_zero, List.set_cons_succ]
              refine go_take 4 27 _ undef rfl (by kernel_rfl) (by kernel_rfl) (by kernel_rfl) (by kernel_rfl) (fun _ _ _ h => h) (Or.inr ⟨by kernel_rfl, rfl⟩) hHeld ?_
              simp only [Act.put, List.setIfInBounds_toArray, List.set_cons_zero, List.set_cons_succ]
              refine go_take 5 28 _ undef rfl (by kernel_rfl) (by kernel_rfl) (by kernel_rfl) (by kernel_rfl) (fun _ _ _ h => h) (Or.inr ⟨by kernel_rfl, rfl⟩) hHeld ?_
              simp only [Act.put, List.setIfInBounds_toArray, List.set_cons_zero, List.set_cons_succ]
              refine go_take 6 29 _ undef rfl (by kernel_rfl) (by kernel_rfl) (by kernel_rfl) (by kernel_rfl) (fun _ _ _ h => h) (Or.inr ⟨by kernel_rfl, rfl⟩) hHeld ?_
              simp only [Act.put, List.setIfInBounds_toArray, List.set_cons_zero, List.set_cons_succ]
              refine go_take 7 30 _ undef rfl (by kernel_rfl) (by kernel_rfl) (by kernel_rfl) (by kernel_rfl) (fun _ _ _ h => h) (Or.inr ⟨by kernel_rfl, rfl⟩) hHeld ?_
              simp only [Act.put, List.setIfInBounds_toArray, List.set_cons_zero, List.set_cons_succ]
              refine go_take 8 31 _ undef rfl (by kernel_rfl) (by kernel_rfl) (by kernel_rfl) (by kernel_rfl) (fun _ _ _ h => h) (Or.inr ⟨by kernel_rfl, rfl⟩) hHeld ?_
              simp only [Act.put, List.setIfInBounds_toArray, List.set_cons_zero, List.set_cons_succ]
              refine go_take 9 32 _ undef rfl (by kernel_rfl) (by kernel_rfl) (by kernel_rfl) (by kernel_rfl) (fun _ _ _ h => h) (Or.inr ⟨by kernel_rfl, rfl⟩) hHeld ?_
              simp only [Act.put, List.setIfInBounds_toArray, List.set_cons_zero, List.set_cons_succ]
              refine go_take 10 33 _ undef rfl (by kernel_rfl) (by kernel_rfl) (by kernel_rfl) (by kernel_rfl) (fun _ _ _ h => h) (Or.inr ⟨by kernel_rfl, rfl⟩) hHeld ?_
              simp only [Act.put, List.setIfInBounds_toArray, List.set_cons_zero, List.set_cons_succ]
              refine go_take 11 34 _ undef rfl (by kernel_rfl) (by kernel_rfl) (by kernel_rfl) (by kernel_rfl) (fun _ _ _ h => h) (Or.inr ⟨by kernel_rfl, rfl⟩) hHeld ?_
              simp only [Act.put, List.setIfInBounds_toArray, List.set_cons_zero, List.set_cons_succ]
              refine go_take 12 35 _ undef rfl (by kernel_rfl) (by kernel_rfl) (by kernel_rfl) (by kernel_rfl) (fun _ _ _ h => h) (Or.inr ⟨by kernel_rfl, rfl⟩) hHeld ?_
              simp only [Act.put, List.setIfInBounds_toArray, List.set_cons_zero, List.set_cons_succ]
              refine go_take 13 36 _ undef rfl (by kernel_rfl) (by kernel_rfl) (by kernel_rfl) (by kernel_rfl) (fun _ _ _ h => h) (Or.inr ⟨by kernel_rfl, rfl⟩) hHeld ?_
              simp only [Act.put, List.setIfInBounds_toArray, List.set_cons_zero, List.set_cons_succ]
              refine go_take 14 37 _ undef rfl (by kernel_rfl) (by kernel_rfl) (by kernel_rfl) (by kernel_rfl) (fun _ _ _ h => h) (Or.inr ⟨by kernel_rfl, rfl⟩) hHeld ?_
              simp only [Act.put, List.setIfInBounds_toArray, List.set_cons_zero, List.set_cons_succ]
              refine go_take 15 38 _ undef rfl (by kernel_rfl) (by kernel_rfl) (by kernel_rfl) (by kernel_rfl) (fun _ _ _ h => h) (Or.inr ⟨by kernel_rfl, rfl⟩) hHeld ?_
              simp only [Act.put, List.setIfInBounds_toArray, List.set_cons_zero, List.set_cons_succ]
              refine go_take 16 39 _ undef rfl (by kernel_rfl) (by kernel_rfl) (by kernel_rfl) (by kernel_rfl) (fun _ _ _ h => h) (Or.inr ⟨by kernel_rfl, rfl⟩) hHeld ?_
              simp only [Act.put, List.setIfInBounds_toArray, List.set_cons_zero, List.set_cons_succ]
              refine go_take 17 40 _ undef rfl (by kernel_rfl) (by kernel_rfl) (by kernel_rfl) (by kernel_rfl) (fun _ _ _ h => h) (Or.inr ⟨by kernel_rfl, rfl⟩) hHeld ?_
              simp only [Act.put, List.setIfInBounds_toArray, List.set_cons_zero, List.set_cons_succ]
              refine go_take 18 41 _ undef rfl (by kernel_rfl) (by kernel_rfl) (by kernel_rfl) (by kernel_rfl) (fun _ _ _ h => h) (Or.inr ⟨by kernel_rfl, rfl⟩) hHeld ?_
              simp only [Act.put, List.setIfInBounds_toArray, List.set_cons_zero, List.set_cons_succ]
              refine go_take 19 42 _ undef rfl (by kernel_rfl) (by kernel_rfl) (by kernel_rfl) (by kernel_rfl) (fun _ _ _ h => h) (Or.inr ⟨by kernel_rfl, rfl⟩) hHeld ?_
              simp only [Act.put, List.setIfInBounds_toArray, List.set_cons_zero, List.set_cons_succ]
              refine go_take 20 43 _ undef rfl (by kernel_rfl) (by kernel_rfl) (by kernel_rfl) (by kernel_rfl) (fun _ _ _ h => h) (Or.inr ⟨by kernel_rfl, rfl⟩) hHeld ?_
              simp only [Act.put, List.setIfInBounds_toArray, List.set_cons_zero, List.set_cons_succ]
              refine go_take 21 44 _ (.bool false) rfl (by kernel_rfl) (by kernel_rfl) (by kernel_rfl) (by kernel_rfl) (fun _ _ _ h => h) (Or.inl ⟨by kernel_rfl, fun u hu => by kernel_rfl⟩) hHeld ?_
              simp only [Act.put, List.setIfInBounds_toArray, List.set_cons_zero, List.set_cons_succ]
              refine wpAnyH_done (by kernel_rfl) ?_ _
              refine NoPanic.normal ?_
              go_wp2_with fail
              go_meet
              case rel => exact ⟨rfl, hHeld.2⟩
            · obtain ⟨px, rfl⟩ : ∃ q, nx = q + 1 := ⟨nx - 1, by omega⟩
              obtain ⟨py, rfl⟩ : ∃ q, ny = q + 1 := ⟨ny - 1, by omega⟩
              obtain ⟨xb, xf, xcc, hxe, hxb, hcx⟩ := Holds.at (Holds.keep hT.pz.hx (fun q hq => hlow.block q hq)) (by rw [icells_length, sub_length x A1 b' hbx]; omega)
              obtain ⟨yb, yf, ycc, hye, hyb, hcy⟩ := Holds.at (Holds.keep hT.pz.hy (fun q hq => hlow.block q hq)) (by rw [icells_length, sub_length y C1 d' hdy]; omega)
              cases hxe
              cases hye
              have x0 := hcx px (by rw [icells_length, sub_length x A1 b' hbx]; omega)
              have y0 := hcy py (by rw [icells_length, sub_length y C1 d' hdy]; omega)
              obtain ⟨zx, hzx⟩ : ∃ z, (sub x A1 b')[px]? = some z := ⟨_, List.getElem?_eq_getElem (by rw [sub_length x A1 b' hbx]; omega)⟩
              obtain ⟨zy, hzy⟩ : ∃ z, (sub y C1 d')[py]? = some z := ⟨_, List.getElem?_eq_getElem (by rw [sub_length y C1 d' hdy]; omega)⟩
              have x1 : wr.cell? ⟨xb, xf + px, none⟩ = some (.int .i64 zx) := by
                rw [x0]
                have := hzx
                rw [List.getElem?_eq_getElem (by rw [sub_length x A1 b' hbx]; omega)] at this
                simp [icells, Option.some.inj this]
              have y1 : wr.cell? ⟨yb, yf + py, none⟩ = some (.int .i64 zy) := by
                rw [y0]
                have := hzy
                rw [List.getElem?_eq_getElem (by rw [sub_length y C1 d' hdy]; omega)] at this
                simp [icells, Option.some.inj this]
              have e3 : (zx == zy) = r := by
                have q3 := (sub_some hzx).2
                have q4 := (sub_some hzy).2
                rw [← HRr.out, show b' - 1 = A1 + px by omega, show d' - 1 = C1 + py by omega, q3, q4]
                have q1 : A1 < b' := by omega
                have q2 : C1 < d' := by omega
                by_cases q : zx = zy <;> simp [q1, q2, q]
              have HE : Hid (false = decide (px + 1 = 0 ∨ py + 1 = 0)) := (decide_eq_false (by omega)).symm
              have i1 : (px : Int) < ((px + 1 : Nat) : Int) := by omega
              have i2 : (py : Int) < ((py + 1 : Nat) : Int) := by omega
              have i1' : (px : Int) < (px : Int) + 1 := by omega
              have i2' : (py : Int) < (py : Int) + 1 := by omega
              have i3 : 0 ≤ (px : Int) := by omega
              have i4 : 0 ≤ (py : Int) := by omega
              have n1 : IntKind.i64.wrap ((px : Int) + 1 - 1) = (px : Int) := by rw [IntKind.wrap_i64]; omega
              have n2 : IntKind.i64.wrap ((py : Int) + 1 - 1) = (py : Int) := by rw [IntKind.wrap_i64]; omega
              have n3 : IntKind.i64.wrap (px : Int) = (px : Int) := by rw [IntKind.wrap_i64]; omega
              have n4 : IntKind.i64.wrap (py : Int) = (py : Int) := by rw [IntKind.wrap_i64]; omega
              have n5 : (px : Int) + 1 - 1 = (px : Int) := by omega
              have n6 : (py : Int) + 1 - 1 = (py : Int) := by omega
              have hcs : ∀ u : World, Low wr u → u.cell? ⟨w.heap.size, 0, none⟩ = some (.slice (some ⟨xb, xf, none⟩) (px + 1) xc) ∧ u.cell? ⟨w.heap.size, 1, none⟩ = some (.slice (some ⟨yb, yf, none⟩) (py + 1) yc) ∧ u.cell? ⟨w.heap.size, 2, none⟩ = some (.int .i64 (C1 : Int)) ∧ u.cell? ⟨w.heap.size, 3, none⟩ = some (.slice ko (px + 1) kc) ∧ u.cell? ⟨xb, xf + px, none⟩ = some (.int .i64 zx) ∧ u.cell? ⟨yb, yf + py, none⟩ = some (.int .i64 zy) := fun u hu => by
                obtain ⟨d0, d1, d2, d3⟩ := (hQ.low hu).cells
                exact ⟨d0, d1, d2, d3, cell_low hu x1, cell_low hu y1⟩
              have hLw : Low wr wr := Below.refl _ _
              clear x0 y0 hcx hcy hzx hzy HRr hxb hyb
              go_region_held3 (fun u => u.cell? ⟨w.heap.size, 0, none⟩ = some (.slice (some ⟨xb, xf, none⟩) (px + 1) xc) ∧ u.cell? ⟨w.heap.size, 1, none⟩ = some (.slice (some ⟨yb, yf, none⟩) (py + 1) yc) ∧ u.cell? ⟨w.heap.size, 2, none⟩ = some (.int .i64 (C1 : Int)) ∧ u.cell? ⟨w.heap.size, 3, none⟩ = some (.slice ko (px + 1) kc) ∧ u.cell? ⟨xb, xf + px, none⟩ = some (.int .i64 zx) ∧ u.cell? ⟨yb, yf + py, none⟩ = some (.int .i64 zy) ∧ Low wr u) (go_keep)
                (first | (go_at_call 100; refine (Empty_low (some ⟨xb, xf, none⟩) (px + 1) xc (some ⟨yb, yf, none⟩) (py + 1) yc C1 ko kc _ wr false HE (by first | assumption | (simp [*]; done))).mono ?_; rintro e wd ⟨rfl, hlw⟩; obtain ⟨g0, g1, g2, g3, g4, g5⟩ := hcs wd hlw))
              go_wp2
              go_meet
              case rel => exact ⟨rfl, by first | assumption | (simp [*]; done)⟩
          case rest =>
            obtain ⟨rfl, hLz⟩ := hcut
            have hTz := hT.low hLz
            have cw := c0
            clear c0 c1 c2 c3 hT hlow hQ hLz
            generalize wc = u0 at hTz ⊢
            obtain ⟨c0, c1, c2, c3⟩ := hTz.box.cells
            cases r with
            | true =>
              have hh := of_decide_eq_true HRr.out
              obtain ⟨h1, h2, h3⟩ := hh
              obtain ⟨px, rfl⟩ : ∃ q, nx = q + 1 := ⟨nx - 1, by omega⟩
              obtain ⟨py, rfl⟩ : ∃ q, ny = q + 1 := ⟨ny - 1, by omega⟩
              have HV2 : Hid (A1 + px - tb x y A1 (A1 + px) C1 (C1 + py) = b - m ∧ C1 + py - tb x y A1 (A1 + px) C1 (C1 + py) = d - m ∧ wrk (wrk K2 (fp (A1 + px) (C1 + py) 1)) (bp (A1 + px) (C1 + py) (tb x y A1 (A1 + px) C1 (C1 + py))) = wrk KF (bp b d m)) := (by
                have := HV.out
                rw [tb, if_pos ⟨h1, h2, h3⟩, show b' - 1 = A1 + px by omega, show d' - 1 = C1 + py by omega] at this
                obtain ⟨q1, q2, q3⟩ := this
                refine ⟨by omega, by omega, ?_⟩
                rw [← q3, ← wrk_append, bp, show b' - 1 = A1 + px by omega, show d' - 1 = C1 + py by omega]
                rfl)
              clear HV HRr h3
              have hkk := hTz.pz.hk
              have hxk := hold_cap hTz.pz.hx
              have hyk := hold_cap hTz.pz.hy
              have n1 : IntKind.i64.wrap ((px : Int) + 1 - 1) = (px : Int) := by rw [IntKind.wrap_i64]; omega
              have n2 : IntKind.i64.wrap ((py : Int) + 1 - 1) = (py : Int) := by rw [IntKind.wrap_i64]; omega
              have n3 : IntKind.i64.wrap (px : Int) = (px : Int) := by rw [IntKind.wrap_i64]; omega
              have n4 : IntKind.i64.wrap (py : Int) = (py : Int) := by rw [IntKind.wrap_i64]; omega
              have n5 : (px : Int) + 1 - 1 = (px : Int) := by omega
              have n6 : (py : Int) + 1 - 1 = (py : Int) := by omega
              go_wp2_with fail
              go_big_quiet (fail)
              have hTq := hTz.low (Below.dN (Below.refl _ u0) nq)
              clear hTz c0 c1 c2 c3
              generalize u0.drewN nq = uq at hTq ⊢
              obtain ⟨c0, c1, c2, c3⟩ := hTq.box.cells
              go_wp2_with fail
              refine (Keep_1 K2 xo (px + 1) xc yo (py + 1) yc A1 C1 ko kc uq px py hTq.ls hTq.pz.at' (by omega) (by omega) (by omega) (by omega)).mono ?_
              rintro e u1 ⟨rfl, hS1, hG1⟩
              have hT1 := hTq.kept hgw hS1 hG1
              clear hTq c0 c1 c2 c3 hS1 hG1
              obtain ⟨c0, c1, c2, c3⟩ := hT1.box.cells
              go_wp2_with fail
              refine (UpTo_f xo (px + 1) xc yo (py + 1) yc C1 ko kc u1 px py (by omega) (by omega) hxk hyk hkk).mono ?_
              rintro e u2 ⟨rfl, hB2⟩
              have hT2 := hT1.low hB2
              clear hT1 c0 c1 c2 c3 hB2
              obtain ⟨c0, c1, c2, c3⟩ := hT2.box.cells
              have f0 := hT2.box.frozen
              have hT3 := hT2.put hgw (hT2.pz.to (i := px) (j := py) (by omega) (by omega))
              unfold pzV
              go_wp2
              go_roundw
              case rel => exact ⟨A1 + px, C1 + py, _, _, _, _, _, _, _, _, _, hT3, HV2⟩
              case measure =>
                refine Nat.lt_of_le_of_lt (Nat.le_of_eq (congrArg (fun o => lenOf (Option.getD o undef)) hT3.box.cells.1)) ?_
                rw [cw]
                simp [lenOf]
            | false =>
              have hh := of_decide_eq_false HRr.out
              have hz : tb x y A1 b' C1 d' = 0 := by rw [tb, if_neg hh]
              obtain ⟨q1, q2, q3⟩ := HV.out
              rw [hz] at q1 q2 q3
              have HQ : Hid (K2 = wrk KF (bp b d m) ∧ b' = b - m ∧ d' = d - m) := ⟨q3, by omega, by omega⟩
              clear hh hz q1 q2 q3 HV HRr cw
              have f1 := hTz.res.frozen
              obtain ⟨e0, e1, e2, e3⟩ := hTz.res.cells
              have s4 := hTz.res.put (.slice xo nx xc) (.slice yo ny yc) (.int .i64 (C1 : Int)) (.slice ko nx kc)
              have hg1 := hTz.ls.lt
              have hl1 := hTz.ls.low.size
              have hs1 := hTz.gr.size
              have hlt := hTz.res.lt
              have hL4 := ls_other (ls_other (ls_other (ls_other hTz.ls (g := w.heap.size + 1) (by omega) (by omega) 0 (.slice xo nx xc)) (g := w.heap.size + 1) (by omega) (by omega) 1 (.slice yo ny yc)) (g := w.heap.size + 1) (by omega) (by omega) 2 (.int .i64 (C1 : Int))) (g := w.heap.size + 1) (by omega) (by omega) 3 (.slice ko nx kc)
              have hG4 := grown_new (grown_new (grown_new (grown_new hTz.gr (B := w.heap.size + 1) (by omega) 0 (.slice xo nx xc)) (B := w.heap.size + 1) (by omega) 1 (.slice yo ny yc)) (B := w.heap.size + 1) (by omega) 2 (.int .i64 (C1 : Int))) (B := w.heap.size + 1) (by omega) 3 (.slice ko nx kc)
              have hpz := hTz.pz
              go_wp2
              refine bodyPost_ret (v := .agg #[.slice xo nx xc, .slice yo ny yc, .int .i64 (C1 : Int), .slice ko nx kc]) (results_cell_row rfl _ _ (w.heap.size + 1) 183 #[.slice xo nx xc, .slice yo ny yc, .int .i64 (C1 : Int), .slice ko nx kc] (0, 0) _ rfl s4 Tryz.underlying183 rfl (by kernel_rfl)) rfl ⟨k, m, xo, nx, xc, yo, ny, yc, ko, kc, HFin.out.1, HFin.out.2.1, ?_, ?_, ?_, hG4⟩
              · rw [← HFin.out.2.2.2.1]
              · rw [← HFin.out.2.2.1, ← HFin.out.2.2.2.1, ← HQ.out.2.1, ← HQ.out.2.2]
                exact hpz
              · rw [← HFin.out.2.2.2.2, ← HQ.out.1]
                exact hL4
end Go.Proofs.YtnlbjknfahhfaaaGreatDoor
