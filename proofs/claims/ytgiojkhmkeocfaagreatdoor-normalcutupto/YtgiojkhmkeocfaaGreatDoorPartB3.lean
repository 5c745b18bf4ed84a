/-
  Texts that belong together, joined: HuCn, HuOne, HuCh, HuGr, HuC7, EdReg, EdApp, EdSameS, EdRApp, HuC8.
-/
import Derived.Test.YtgiojkhmkeocfaaGreatDoorPartA5
import Derived.Test.YtgiojkhmkeocfaaGreatDoorPartA3
import Derived.Test.YtgiojkhmkeocfaaGreatDoorPartA4

/- The reference's count of layer 11, walked. -/
set_option maxRecDepth 20000
namespace Go.Proofs.YtgiojkhmkeocfaaGreatDoor
open Go.RowKit

section
variable {u : World} {b : Nat} {A AN B BN : Int} {ls : List Mk} {v : Value}
theorem Hx.setA (q : Hx u b ⟨A, AN, B, BN, ls⟩ v) (z : Int) : Hx (u.setCell ⟨b, 0, none⟩ (.int .i64 z)) b ⟨z, AN, B, BN, ls⟩ v := heap_setCell_same u b 0 _ _ _ q
theorem Hx.setAN (q : Hx u b ⟨A, AN, B, BN, ls⟩ v) (z : Int) : Hx (u.setCell ⟨b, 1, none⟩ (.int .i64 z)) b ⟨A, z, B, BN, ls⟩ v := heap_setCell_same u b 1 _ _ _ q
theorem Hx.setB (q : Hx u b ⟨A, AN, B, BN, ls⟩ v) (z : Int) : Hx (u.setCell ⟨b, 2, none⟩ (.int .i64 z)) b ⟨A, AN, z, BN, ls⟩ v := heap_setCell_same u b 2 _ _ _ q
theorem Hx.setBN (q : Hx u b ⟨A, AN, B, BN, ls⟩ v) (z : Int) : Hx (u.setCell ⟨b, 3, none⟩ (.int .i64 z)) b ⟨A, AN, B, z, ls⟩ v := heap_setCell_same u b 3 _ _ _ q
theorem Hx.other (q : Hx u b ⟨A, AN, B, BN, ls⟩ v) {g : Nat} (hg : b ≠ g) (j : Nat) (z : Value) : Hx (u.setCell ⟨g, j, none⟩ z) b ⟨A, AN, B, BN, ls⟩ v := q.keep (grown_set u g j z) (fun e => hg (Option.some.inj e))
end

end Go.Proofs.YtgiojkhmkeocfaaGreatDoor

/- The reference's one of layer 11, walked. -/
set_option maxRecDepth 20000
namespace Go.Proofs.YtgiojkhmkeocfaaGreatDoor
open Go.RowKit

/-- a change in a box -/
def chO (c : Ch) : Obj := .cells #[.int .i64 c.A, .int .i64 c.AN, .int .i64 c.B, .int .i64 c.BN] 64
def Cx (u : World) (b : Nat) (c : Ch) : Prop := u.heap[b]? = some (chO c)
section
variable {u u' : World} {b : Nat} {c : Ch}
theorem Cx.cells (q : Cx u b c) : u.cell? ⟨b, 0, none⟩ = some (.int .i64 c.A) ∧ u.cell? ⟨b, 1, none⟩ = some (.int .i64 c.AN) ∧ u.cell? ⟨b, 2, none⟩ = some (.int .i64 c.B) ∧ u.cell? ⟨b, 3, none⟩ = some (.int .i64 c.BN) := by
  unfold Cx chO at q
  refine ⟨?_, ?_, ?_, ?_⟩ <;> rw [Lib.cell_of_heap q] <;> rfl
theorem Cx.lt (q : Cx u b c) : b < u.heap.size := (Array.getElem?_eq_some_iff.1 q).1
theorem Cx.low (q : Cx u b c) (hg : Below u.heap.size u u') : Cx u' b c := (hg.block b q.lt).trans q
theorem Cx.new (w : World) (c : Ch) : Cx (w.alloc (chO c)) w.heap.size c := _root_.Go.heap_alloc_new w _
end

theorem exec_ixC {u : World} {b off n c i : Nat} (hi : i < n) {op : Oper} (x y : Operand) (ho : op.op = .indexAddr 25 x y) {ev : Operand → Value} (hx : ev x = .slice (some ⟨b, off, none⟩) n c) (hy : ev y = .int .i64 (i : Int)) :
    (execOp ev op).run Tryz.prog u = .ok (.value (.pointer (some ⟨b, off + i * 4, none⟩))) u := by
  have i1 : 0 ≤ (i : Int) := by omega
  have i2 : (i : Int) < (n : Int) := by omega
  simp only [execOp, ho, hx, hy]
  go_simp
theorem exec_ixT {u : World} {b off n c i : Nat} (hi : i < n) {op : Oper} (x y : Operand) (ho : op.op = .indexAddr 23 x y) {ev : Operand → Value} (hx : ev x = .slice (some ⟨b, off, none⟩) n c) (hy : ev y = .int .i64 (i : Int)) :
    (execOp ev op).run Tryz.prog u = .ok (.value (.pointer (some ⟨b, off + i, none⟩))) u := by
  have i1 : 0 ≤ (i : Int) := by omega
  have i2 : (i : Int) < (n : Int) := by omega
  simp only [execOp, ho, hx, hy]
  go_simp
theorem load_tx {u : World} {a : Addr} {s : ByteArray} (h : u.cell? a = some (.string s)) {op : Oper} (x : Operand) (ho : op.op = .load 9 x) {ev : Operand → Value} (hx : ev x = .pointer (some a)) :
    (execOp ev op).run Tryz.prog u = .ok (.value (.string s)) u := by
  simp only [execOp, ho, hx]
  go_simp
/-- the cells of a change in a row -/
def ChAt (u : World) (b o : Nat) (x : Ch) : Prop := u.cell? ⟨b, o, none⟩ = some (.int .i64 x.A) ∧ u.cell? ⟨b, o + 1, none⟩ = some (.int .i64 x.AN) ∧ u.cell? ⟨b, o + 2, none⟩ = some (.int .i64 x.B) ∧ u.cell? ⟨b, o + 3, none⟩ = some (.int .i64 x.BN)
theorem hcell_keep {u u' : World} (hB : Low u u') {q : Addr} {z : Value} (hz : u.cell? q = some z) : u'.cell? q = some z := (World.cell?_of_block (w := u) (Below.block hB _ (World.block_lt_of_cell? _ _ hz))).trans hz
theorem ChAt.low {u u' : World} {b o : Nat} {x : Ch} (h : ChAt u b o x) (hB : Low u u') : ChAt u' b o x := ⟨hcell_keep hB h.1, hcell_keep hB h.2.1, hcell_keep hB h.2.2.1, hcell_keep hB h.2.2.2⟩
theorem load_chR {u : World} {b o : Nat} {h : Ch} (q : ChAt u b o h) {op : Oper} (x : Operand) (ho : op.op = .load 64 x) {ev : Operand → Value} (hx : ev x = .pointer (some ⟨b, o, none⟩)) :
    (execOp ev op).run Tryz.prog u = .ok (.value (chV h)) u := by
  obtain ⟨d0, d1, d2, d3⟩ := q
  unfold chV
  simp only [execOp, ho, hx]
  go_simp
theorem exec_dec {u : World} {n : Nat} (hn : n ≤ 4611686018427387904) {op : Oper} (x y : Operand) (ho : op.op = .binOp .sub 3 x y 3) {ev : Operand → Value} (hx : ev x = .int .i64 ((n + 1 : Nat) : Int)) (hy : ev y = .int .i64 1) :
    (execOp ev op).run Tryz.prog u = .ok (.value (.int .i64 (n : Int))) u := by
  have e : ((n + 1 : Nat) : Int) - 1 = (n : Int) := by omega
  have e3 : IntKind.i64.wrap (n : Int) = (n : Int) := wrap_s (by omega) (by omega)
  have e4 : wrap64 (n : Int) = (n : Int) := by unfold wrap64; omega
  simp only [execOp, ho, hx, hy]
  go_simp
theorem exec_storeCh {u : World} {B : Nat} {c0 c : Ch} (q : Cx u B c0) : ∃ u', Cx u' B c ∧ u.grownBy u' (some B) ∧ ∀ {op : Oper} (x y : Operand) (_ : op.op = .store 64 x y) {ev : Operand → Value} (_ : ev x = .pointer (some ⟨B, 0, none⟩)) (_ : ev y = chV c), (execOp ev op).run Tryz.prog u = .ok .skip u' := by
  obtain ⟨d0, d1, d2, d3⟩ := q.cells
  have f : ∀ j, u.frozen? ⟨B, j, none⟩ = false := fun j => Lib.frozen_of_heap q j
  have f0 := f 0
  have f1 := f 1
  have f2 := f 2
  have f3 := f 3
  refine ⟨(((u.setCell ⟨B, 0, none⟩ (.int .i64 c.A)).setCell ⟨B, 1, none⟩ (.int .i64 c.AN)).setCell ⟨B, 2, none⟩ (.int .i64 c.B)).setCell ⟨B, 3, none⟩ (.int .i64 c.BN), ?_, ?_, ?_⟩
  · have s1 := heap_setCell_same u B 0 _ _ (.int .i64 c.A) q
    have s2 := heap_setCell_same _ B 1 _ _ (.int .i64 c.AN) s1
    have s3 := heap_setCell_same _ B 2 _ _ (.int .i64 c.B) s2
    exact heap_setCell_same _ B 3 _ _ (.int .i64 c.BN) s3
  · exact (((grown_set u B 0 _).trans (grown_set _ B 1 _)).trans (grown_set _ B 2 _)).trans (grown_set _ B 3 _)
  · intro op x y ho ev hx hy
    unfold chV at hy
    simp only [execOp, ho, hx, hy]
    go_simp
theorem Cx.keep {u u' : World} {b : Nat} {c : Ch} (q : Cx u b c) {g : Option Nat} (hg : u.grownBy u' g) (hr : some b ≠ g) : Cx u' b c := (hg.block b q.lt hr).trans q

theorem cut_step {t : List (List UInt8)} {p : Nat} {hi : Int} (h1 : (p : Int) < hi) (h2 : hi ≤ t.length) {s : List UInt8} (hs : t[p]'(by omega) = s) : cut t p (hi - p) = s :: cut t ((p + 1 : Nat) : Int) (hi - ((p + 1 : Nat) : Int)) := by
  simp only [cut, Int.toNat_natCast]
  rw [List.drop_eq_getElem_cons (by omega : p < t.length), hs, show (hi - (p : Int)).toNat = (hi - ((p + 1 : Nat) : Int)).toNat + 1 by omega, List.take_succ_cons]
theorem mks_cons (s : Int) (t : List UInt8) (x : List (List UInt8)) : mks s (t :: x) = ⟨s, t⟩ :: mks s x := rfl

end Go.Proofs.YtgiojkhmkeocfaaGreatDoor

/- The reference's Changes of layer 11, walked. -/
set_option maxRecDepth 20000
namespace Go.Proofs.YtgiojkhmkeocfaaGreatDoor
open Go.RowKit

/-- a last change whose numbers can be added to -/
def Hhd : List Ch → Prop
  | [] => True
  | c :: _ => (-1 ≤ c.A ∧ 0 ≤ c.AN ∧ c.A + c.AN ≤ 4398046511104) ∧ -1 ≤ c.B ∧ 0 ≤ c.BN ∧ c.B + c.BN ≤ 4398046511104
/-- how many lines hunks have -/
def tot : List Hk → Nat
  | [] => 0
  | h :: l => h.ls.length + tot l
/-- changes backwards as cells -/
def bch (r : List Ch) : List Value := chcells r.reverse
theorem bch_cons (c : Ch) (r : List Ch) : bch (c :: r) = bch r ++ chC c := by simp [bch, chcells]
theorem bch_length (r : List Ch) : (bch r).length = r.length * 4 := by simp [bch, chcells_length]
theorem bch_at (c : Ch) (r : List Ch) : (bch (c :: r))[r.length * 4]? = some (.int .i64 c.A) ∧ (bch (c :: r))[r.length * 4 + 1]? = some (.int .i64 c.AN) ∧ (bch (c :: r))[r.length * 4 + 2]? = some (.int .i64 c.B) ∧ (bch (c :: r))[r.length * 4 + 3]? = some (.int .i64 c.BN) := by
  have hl := bch_length r
  rw [bch_cons]
  refine ⟨?_, ?_, ?_, ?_⟩ <;> rw [List.getElem?_append_right (by omega)] <;> simp [hl, chC]
theorem bch_setA (c : Ch) (r : List Ch) (z : Int) : (bch (c :: r)).set (r.length * 4 + 1) (.int .i64 z) = bch (⟨c.A, z, c.B, c.BN⟩ :: r) := by
  have hl := bch_length r
  rw [bch_cons, bch_cons, List.set_append_right _ _ (by omega)]
  simp [hl, chC]
theorem bch_setB (c : Ch) (r : List Ch) (z : Int) : (bch (c :: r)).set (r.length * 4 + 3) (.int .i64 z) = bch (⟨c.A, c.AN, c.B, z⟩ :: r) := by
  have hl := bch_length r
  rw [bch_cons, bch_cons, List.set_append_right _ _ (by omega)]
  simp [hl, chC]
/-- a row that is not empty: where it lies -/
theorem hown_at {u : World} {B : Nat} {e : TypeId} {s : Nat} {oo : Option Addr} {n oc : Nat} {xs : List Value} (h : u.ownsRow B e s (.slice oo (n + 1) oc) (n + 1) xs) : ∃ g, oo = some ⟨g, 0, none⟩ := by
  rcases h.2 with ⟨_, h0⟩ | ⟨g, cap, cur, e, _⟩
  · omega
  · cases e
    exact ⟨g, rfl⟩
theorem opn_head (a b : Int) (r : List Ch) : ∃ c t, opn a b r = c :: t ∧ c.A + c.AN = a ∧ c.B + c.BN = b := by
  unfold opn
  cases r with
  | nil => exact ⟨_, _, rfl, by simp, by simp⟩
  | cons c r =>
    by_cases h : endsAt a b (c :: r) = true
    · rw [if_pos h]
      simp only [endsAt, Bool.and_eq_true, decide_eq_true_eq] at h
      exact ⟨c, r, rfl, h.1, h.2⟩
    · rw [if_neg h]
      exact ⟨_, _, rfl, by simp, by simp⟩

end Go.Proofs.YtgiojkhmkeocfaaGreatDoor

/- The reference's Group of layer 11, walked. -/
set_option maxRecDepth 20000
namespace Go.Proofs.YtgiojkhmkeocfaaGreatDoor
open Go.RowKit

theorem infoCs : (Tryz.prog.info? 25).map (fun i => (i.zero, i.size, i.bytes)) = some (some (.slice none 0 0), 1, 24) := by kernel_rfl
/-- groups of one's own: a row of rows of changes -/
structure Gr (w : World) (ov : Value) (G : List (List Ch × Value)) (u : World) : Prop where
  low : Below w.heap.size w u
  own : u.ownsRow w.heap.size 25 1 ov G.length (G.map (·.2))
  ins : ∀ x ∈ G, u.ownsRow w.heap.size 64 4 x.2 x.1.length (chcells x.1)
/-- the last row is none of the others -/
def Lst (G : List (List Ch × Value)) : Prop := ∀ P x, G = P ++ [x] → ∀ y ∈ P, ∀ b, x.2.ownBlock = some b → y.2.ownBlock ≠ some b
section
variable {w u u' : World} {ov ov' : Value} {G P : List (List Ch × Value)}
theorem Gr.nil (w : World) : Gr w (.slice none 0 0) [] w := ⟨Below.refl _ _, hnil_row _ _ _ _, fun _ h => by cases h⟩
theorem Gr.alloc (h : Gr w ov G u) (o : Obj) : Gr w ov G (u.alloc o) := ⟨h.low.alloc h.low.size o, h.own.alloc o, fun x hx => (h.ins x hx).alloc o⟩
theorem Gr.drewN (h : Gr w ov G u) (n : Nat) : Gr w ov G (u.drewN n) := ⟨Below.dN h.low n, h.own, h.ins⟩
theorem Gr.keep (h : Gr w ov G u) (hk : Below u.heap.size u u') : Gr w ov G u' := ⟨h.low.trans (hk.mono h.low.size), owns_keep h.own hk, fun x hx => owns_keep (h.ins x hx) hk⟩
/-- a group more -/
theorem Gr.more (h : Gr w ov G u) {g : List Ch} {gv : Value} (hgv : u.ownsRow w.heap.size 64 4 gv g.length (chcells g)) (hg : u.grownBy u' ov.ownBlock) (ho : u'.ownsRow w.heap.size 25 1 ov' (G.length + 1) (G.map (·.2) ++ [gv])) : Gr w ov' (G ++ [(g, gv)]) u' := by
  have key : ∀ {v : Value} {n : Nat} {xs : List Value}, u.ownsRow w.heap.size 64 4 v n xs → u'.ownsRow w.heap.size 64 4 v n xs := fun hv => own_kept hv hg (fun k hk => own_ne h.own hv (by decide) hk)
  refine ⟨h.low.grown hg h.low.size (fun j hj => owns_ge h.own hj), ?_, fun z hz => ?_⟩
  · rw [List.length_append, List.map_append]
    exact ho
  · rcases List.mem_append.1 hz with hz | hz
    · exact key (h.ins z hz)
    · rw [List.mem_singleton.1 hz]
      exact key hgv
/-- the last group, longer: its row has grown, and the row of rows names it -/
theorem Gr.last {g g' : List Ch} {gv gv' : Value} (h : Gr w ov (P ++ [(g, gv)]) u) (hL : Lst (P ++ [(g, gv)])) (hg : u.grownBy u' gv.ownBlock) (ho : u'.ownsRow w.heap.size 64 4 gv' g'.length (chcells g')) (hb : gv'.ownBlock = gv.ownBlock ∨ gv'.ownBlock = some u.heap.size) :
    ∃ q cap, ov = .slice (some ⟨q, 0, none⟩) (P.length + 1) cap ∧ u'.cell? ⟨q, P.length, none⟩ = some gv ∧ u'.frozen? ⟨q, P.length, none⟩ = false ∧ Gr w ov (P ++ [(g', gv')]) (u'.setCell ⟨q, P.length, none⟩ gv') ∧ Lst (P ++ [(g', gv')]) := by
  have hown := h.own
  rw [List.length_append, List.length_singleton] at hown
  have hgl := h.ins (g, gv) (by simp)
  obtain ⟨oo, oc, hov⟩ := (holds_of hown).form
  subst hov
  obtain ⟨q, rfl⟩ := hown_at hown
  have hown' := own_kept hown hg (fun k hk => own_ne hgl hown (by decide) hk)
  have hst := hown'.stored P.length gv'
  have hset : ((P ++ [(g, gv)]).map (·.2)).set P.length gv' = (P ++ [(g', gv')]).map (·.2) := by simp
  rw [hset] at hst
  have hlow : Below w.heap.size w u' := h.low.grown hg h.low.size (fun j hj => owns_ge hgl hj)
  refine ⟨q, oc, rfl, ?_, hown'.frozenAt _, ⟨hlow.grown hst.2 hlow.size (fun j hj => by cases hj; exact owns_ge hown rfl), ?_, ?_⟩, ?_⟩
  · rw [hown'.cellAt P.length (by omega)]
    simp
  · rw [List.length_append, List.length_singleton]
    exact hst.1
  · intro x hx
    have hqx : ∀ {v : Value} {n : Nat} {xs : List Value}, u'.ownsRow w.heap.size 64 4 v n xs → (u'.setCell ⟨q, P.length, none⟩ gv').ownsRow w.heap.size 64 4 v n xs := fun hv => own_kept hv hst.2 (fun k hk => own_ne hown' hv (by decide) hk)
    rcases List.mem_append.1 hx with hx | hx
    · exact hqx (own_kept (h.ins x (List.mem_append_left _ hx)) hg (fun k hk => hL P (g, gv) rfl x hx k hk))
    · rw [List.mem_singleton.1 hx]
      exact hqx ho
  · intro P' x' he y hy b' hb'
    have he2 := List.append_inj' he rfl
    obtain ⟨rfl, hx'⟩ := he2
    have hx2 : (g', gv') = x' := by simpa using hx'
    subst hx2
    rcases hb with hb | hb
    · rw [hb] at hb'
      exact hL P (g, gv) rfl y hy b' hb'
    · rw [hb] at hb'
      cases hb'
      intro e
      have := own_lt (h.ins y (List.mem_append_left _ hy)) e
      omega
end
theorem right_nums {fl : Bool} {p q n m : Int} {l : List Ch} (h : Right fl p q n m l) : ∀ c ∈ l, numB c = true := by
  induction l generalizing fl p q with
  | nil => intro c hc; cases hc
  | cons d l ih =>
    intro c hc
    rcases List.mem_cons.1 hc with rfl | hc
    · exact h.1.1
    · exact ih h.2 c hc
theorem exec_ixG {u : World} {b off n c i : Nat} (hi : i < n) {op : Oper} (x y : Operand) (ho : op.op = .indexAddr 90 x y) {ev : Operand → Value} (hx : ev x = .slice (some ⟨b, off, none⟩) n c) (hy : ev y = .int .i64 (i : Int)) :
    (execOp ev op).run Tryz.prog u = .ok (.value (.pointer (some ⟨b, off + i, none⟩))) u := by
  have i1 : 0 ≤ (i : Int) := by omega
  have i2 : (i : Int) < (n : Int) := by omega
  simp only [execOp, ho, hx, hy]
  go_simp
theorem load_chs {u : World} {a : Addr} {o : Option Addr} {n c : Nat} (h : u.cell? a = some (.slice o n c)) {op : Oper} (x : Operand) (ho : op.op = .load 25 x) {ev : Operand → Value} (hx : ev x = .pointer (some a)) :
    (execOp ev op).run Tryz.prog u = .ok (.value (.slice o n c)) u := by
  simp only [execOp, ho, hx]
  go_simp
theorem exec_storeG {u : World} {b j : Nat} (hf : u.frozen? ⟨b, j, none⟩ = false) {o n c} (hc : u.cell? ⟨b, j, none⟩ = some (.slice o n c)) {o' n' c'} {op : Oper} (x y : Operand) (ho : op.op = .store 25 x y) {ev : Operand → Value} (hx : ev x = .pointer (some ⟨b, j, none⟩)) (hy : ev y = .slice o' n' c') :
    (execOp ev op).run Tryz.prog u = .ok .skip (u.setCell ⟨b, j, none⟩ (.slice o' n' c')) := by
  simp only [execOp, ho, hx, hy]
  go_simp
theorem ch_row (w : World) (c : Ch) : Holds (w.alloc (chO c)) (.slice (some ⟨w.heap.size, 0, none⟩) 1 1) 1 (chcells [c]) := new_holds w #[.int .i64 c.A, .int .i64 c.AN, .int .i64 c.B, .int .i64 c.BN] 64 1 1 (by decide)
theorem ch_own (w : World) (B : Nat) (c : Ch) (hB : B ≤ w.heap.size) : (w.alloc (chO c)).ownsRow B 64 4 (.slice (some ⟨w.heap.size, 0, none⟩) 1 1) 1 (chcells [c]) := by
  refine ⟨rfl, .inr ⟨_, 1, #[.int .i64 c.A, .int .i64 c.AN, .int .i64 c.B, .int .i64 c.BN], rfl, hB, _root_.Go.heap_alloc_new w _, Nat.le_refl _, by decide, rfl, rfl⟩⟩
theorem map_split {G : List (List Ch × Value)} {gs : List (List Ch)} {g : List Ch} (h : G.map (·.1) = gs ++ [g]) : ∃ P gv, G = P ++ [(g, gv)] ∧ P.map (·.1) = gs := by
  rcases List.eq_nil_or_concat G with rfl | ⟨P, x, rfl⟩
  · have := congrArg List.length h
    simp at this
  · rw [List.concat_eq_append] at h ⊢
    rw [List.map_append] at h
    have h2 := List.append_inj' h rfl
    obtain ⟨gx, gv⟩ := x
    have h3 : gx = g := by simpa using h2.2
    subst h3
    exact ⟨P, gv, rfl, h2.1⟩

/-- is a change near the one ahead of it? -/
def nrB (ctx : Int) (l : List Ch) (i : Nat) (d : Ch) : Bool := match (l.take i).getLast? with
  | none => false
  | some c => decide (d.A - c.A - c.AN ≤ 2 * ctx)
theorem last_take {l : List Ch} {j : Nat} (hj : j < l.length) : (l.take (j + 1)).getLast? = some l[j] := by
  rw [List.take_succ_eq_append_getElem hj, List.getLast?_append]
  simp
theorem grp_take {ctx : Int} {l : List Ch} {i : Nat} (hi : i < l.length) : (nrB ctx l i l[i] = true → ∃ gs gl, grp ctx (l.take i) = gs ++ [gl] ∧ grp ctx (l.take (i + 1)) = gs ++ [gl ++ [l[i]]]) ∧ (nrB ctx l i l[i] = false → grp ctx (l.take (i + 1)) = grp ctx (l.take i) ++ [[l[i]]]) := by
  cases i with
  | zero =>
    refine ⟨fun h => by simp [nrB] at h, fun _ => ?_⟩
    rw [List.take_succ_eq_append_getElem hi]
    rfl
  | succ j =>
    have e1 : l.take (j + 1) = l.take j ++ [l[j]] := List.take_succ_eq_append_getElem (by omega)
    have e2 : l.take (j + 1 + 1) = l.take j ++ [l[j]] ++ [l[j + 1]] := by rw [List.take_succ_eq_append_getElem hi, e1]
    obtain ⟨gs, g, h1, h2⟩ := grp_snoc ctx (l.take j) l[j] l[j + 1]
    have hn : nrB ctx l (j + 1) l[j + 1] = decide (l[j + 1].A - l[j].A - l[j].AN ≤ 2 * ctx) := by
      unfold nrB
      rw [last_take (by omega)]
    rw [hn, e1, e2, h1, h2]
    refine ⟨fun h => ?_, fun h => ?_⟩
    · rw [if_pos (of_decide_eq_true h)]
      exact ⟨gs, g ++ [l[j]], rfl, rfl⟩
    · rw [if_neg (of_decide_eq_false h)]
theorem lst_more {G : List (List Ch × Value)} {u : World} {w : World} {ov : Value} (h : Gr w ov G u) {g : List Ch} {gv : Value} {b : Nat} (hb : gv.ownBlock = some b) (hs : u.heap.size ≤ b) : Lst (G ++ [(g, gv)]) := by
  intro P' x' he y hy b' hb'
  have he2 := List.append_inj' he rfl
  obtain ⟨rfl, hx'⟩ := he2
  have hx2 : (g, gv) = x' := by simpa using hx'
  subst hx2
  dsimp only at hb'
  rw [hb] at hb'
  cases hb'
  intro e
  have := own_lt (h.ins y hy) e
  omega

end Go.Proofs.YtgiojkhmkeocfaaGreatDoor

/- The code's Group of layer 11, walked. -/
set_option maxRecDepth 20000
namespace Go.Proofs.YtgiojkhmkeocfaaGreatDoor
open Go.RowKit

/-- the groups lie apart from one another -/
def Apt (G : List (List Ch × Value)) : Prop := G.Pairwise fun x y => ∀ b, x.2.ownBlock = some b → y.2.ownBlock ≠ some b
theorem apt_lst {G : List (List Ch × Value)} (h : Apt G) : Lst G := by
  intro P x he y hy b hb e
  subst he
  exact (List.pairwise_append.1 h).2.2 y hy x (by simp) b e hb
theorem apt_more {G : List (List Ch × Value)} (h : Apt G) (g : List Ch) : Apt (G ++ [(g, .slice none 0 0)]) := by
  refine List.pairwise_append.2 ⟨h, List.pairwise_singleton _ _, ?_⟩
  intro x _ y hy b _ e
  rw [List.mem_singleton.1 hy] at e
  cases e
theorem apt_last {P : List (List Ch × Value)} {g g' : List Ch} {gv gv' : Value} (h : Apt (P ++ [(g, gv)])) {w u : World} {ov : Value} (hG : Gr w ov (P ++ [(g, gv)]) u) (hb : gv'.ownBlock = gv.ownBlock ∨ gv'.ownBlock = some u.heap.size) : Apt (P ++ [(g', gv')]) := by
  obtain ⟨h1, _, h3⟩ := List.pairwise_append.1 h
  refine List.pairwise_append.2 ⟨h1, List.pairwise_singleton _ _, ?_⟩
  intro x hx y hy b hxb e
  rw [List.mem_singleton.1 hy] at e
  dsimp only at e
  rcases hb with hb | hb
  · rw [hb] at e
    exact h3 x hx (g, gv) (by simp) b hxb e
  · rw [hb] at e
    cases e
    have := own_lt (hG.ins x (List.mem_append_left _ hx)) hxb
    omega
theorem cx_ne {u : World} {b : Nat} {d : Ch} (h : Cx u b d) {B s n : Nat} {v : Value} {xs : List Value} (ho : u.ownsRow B 25 s v n xs) : v.ownBlock ≠ some b := by
  intro e
  rcases ho.2 with ⟨rfl, _⟩ | ⟨g, cap, cur, rfl, _, hg, _⟩
  · cases e
  · simp only [Value.ownBlock, Option.some.injEq] at e
    subst e
    unfold Cx chO at h
    rw [h] at hg
    simp at hg
theorem exec_nil {u : World} {a : Addr} {op : Oper} (x : Operand) (ho : op.op = .nilCheck x) {ev : Operand → Value} (hx : ev x = .pointer (some a)) : (execOp ev op).run Tryz.prog u = .ok (.value (.pointer (some a))) u := by
  simp only [execOp, ho, hx]
  go_simp
/-- behind the change ahead -/
def enL (l : List Ch) (i : Nat) : Int := match (l.take i).getLast? with
  | none => 0
  | some c => c.A + c.AN
theorem enL_succ {l : List Ch} {i : Nat} (hi : i < l.length) : enL l (i + 1) = l[i].A + l[i].AN := by
  unfold enL
  rw [last_take hi]
theorem nr_en {l : List Ch} {i : Nat} (hi : i < l.length) {ctx : Int} {d : Ch} : nrB ctx l i d = (decide (0 < i) && decide (d.A - enL l i ≤ 2 * ctx)) := by
  cases i with
  | zero => rfl
  | succ j =>
    unfold nrB enL
    rw [last_take (by omega), decide_eq_true (Nat.succ_pos j), Bool.true_and]
    dsimp only
    rw [show d.A - (l[j].A + l[j].AN) = d.A - l[j].A - l[j].AN by omega]
theorem enL_num {l : List Ch} (h : ∀ c ∈ l, numB c = true) {i : Nat} (hi : i ≤ l.length) : 0 ≤ enL l i ∧ enL l i ≤ 4294967296 := by
  cases i with
  | zero => exact ⟨by unfold enL; simp, by unfold enL; simp⟩
  | succ j =>
    rw [enL_succ (by omega)]
    have := (numB_iff l[j]).1 (h _ (List.getElem_mem _))
    omega
theorem nil_row1 (w : World) : Holds (w.alloc (.cells #[.slice none 0 0] 25)) (.slice (some ⟨w.heap.size, 0, none⟩) 1 1) 1 [.slice none 0 0] := new_holds w #[.slice none 0 0] 25 1 1 (by decide)

set_option maxRecDepth 10000 in
set_option maxHeartbeats 16000000 in
theorem hGroup_f (l : List Ch) (n m ctx : Int) (v : Value) (w : World) (hv : HCh w v l) (hl : l.length ≤ 1099511627776) (hn : n ≤ 9223372036854775807) (hm : m ≤ 9223372036854775807) (z : Int) (HZ : Hid (grpE l n m ctx = z)) (R : List (List Ch)) (HR : Hid (grpR l n m ctx = R)) : Calls Tryz.prog 43 #[v, .int .i64 n, .int .i64 m, .int .i64 ctx] w fun e w' => ∃ v' G, e = .returned (.tuple #[v', .int .i64 z]) ∧ Gr w v' G w' ∧ Apt G ∧ G.map (·.1) = R := by
  obtain ⟨vo, lc, rfl⟩ := Holds.form hv
  obtain ⟨ck, hck⟩ : ∃ c, chk l n m = c := ⟨_, rfl⟩
  have HCK : Hid (chk l n m = ck) := hck
  clear hck
  go_enter Tryz.func43, Tryz.ntmps43
  go_wp2_with fail
  refine (Check_f l n m ck _ w hv hl hn hm HCK).mono ?_
  rintro e W ⟨rfl, hBW⟩
  by_cases hc0 : ck = 0
  · subst hc0
    by_cases hx1 : ctx < 0
    · have HE : Hid (z = 2) := (by
        show _ = _
        rw [← HZ.out]
        unfold grpE
        rw [HCK.out]
        simp [hx1])
      have HRN : Hid (R = []) := (by
        show _ = _
        rw [← HR.out]
        unfold grpR
        rw [HZ.out, HE.out, if_neg (by decide)])
      clear HZ HR HCK
      go_wp2
      go_ret2
      rw [HE.out, HRN.out]
      exact ⟨_, [], rfl, ⟨hBW, hnil_row _ _ _ _, fun _ h => by cases h⟩, List.Pairwise.nil, rfl⟩
    · have ex1 : decide (ctx < 0) = false := decide_eq_false hx1
      by_cases hx2 : 100 < ctx
      · have HE : Hid (z = 2) := (by
          show _ = _
          rw [← HZ.out]
          unfold grpE
          rw [HCK.out]
          simp [hx2])
        have HRN : Hid (R = []) := (by
          show _ = _
          rw [← HR.out]
          unfold grpR
          rw [HZ.out, HE.out, if_neg (by decide)])
        clear HZ HR HCK
        go_wp2
        go_ret2
        rw [HE.out, HRN.out]
        exact ⟨_, [], rfl, ⟨hBW, hnil_row _ _ _ _, fun _ h => by cases h⟩, List.Pairwise.nil, rfl⟩
      · have ex2 : decide (100 < ctx) = false := decide_eq_false hx2
        have HZ0 : Hid (z = 0) := (by
          show _ = _
          rw [← HZ.out]
          unfold grpE
          rw [HCK.out]
          simp [hx1, hx2])
        have HR2 : Hid (grp ctx l = R) := (by
          show _ = _
          rw [← HR.out]
          unfold grpR
          rw [HZ.out, HZ0.out, if_pos rfl])
        have HNB : Hid (∀ c ∈ l, numB c = true) := (by
          have h : Script l n m := (by
            have h := HCK.out
            by_cases hq : Script l n m
            · exact hq
            · rw [chk_no hq] at h; cases h)
          exact right_nums h.2.2)
        obtain rfl : z = 0 := HZ0.out
        clear HZ HR HCK HZ0
        go_wp2
        go_loopw [11, 12, 31] (fun ov ev iv wr => ∃ (i : Nat) (G : List (List Ch × Value)) (E : Int), i ≤ l.length ∧ ev = .int .i64 E ∧ iv = .int .i64 (i : Int) ∧ (∃ oo oc, ov = .slice oo G.length oc) ∧ G.length ≤ i ∧ Gr w ov G wr ∧ Hid (Apt G) ∧ Hid (G.map (·.1) = grp ctx (l.take i)) ∧ Hid (enL l i = E)) (fun _ _ iv _ => l.length - (intOf iv).toNat)
        case atStart => exact ⟨0, [], 0, Nat.zero_le _, by go_num, by go_num, ⟨_, _, rfl⟩, Nat.le_refl _, ⟨hBW, hnil_row _ _ _ _, fun _ h => by cases h⟩, List.Pairwise.nil, rfl, rfl⟩
        case round =>
          obtain ⟨i, G, E, hi, rfl, rfl, ⟨oo, oc, rfl⟩, hGi, hS, HAP, HI, HEL⟩ := hrel
          by_cases hlt : i < l.length
          · obtain ⟨lb, lf, rfl, _, _⟩ := HCh.at hv (by omega)
            obtain ⟨d, hd⟩ : ∃ d, l[i] = d := ⟨_, rfl⟩
            have hgA : ChAt wr lb (lf + i * 4) d := (by
              obtain ⟨b', off', e, _, hc'⟩ := HCh.at (HCh.keep hv hS.low (Nat.le_refl _)) (by omega)
              cases e
              have h := hc' i hlt
              rw [hd] at h
              exact h)
            have hnd := (numB_iff d).1 (HNB.out d (by rw [← hd]; exact List.getElem_mem hlt))
            have hEb := enL_num HNB.out hi
            rw [HEL.out] at hEb
            have HEN : Hid (enL l (i + 1) = d.A + d.AN) := (by show _ = _; rw [enL_succ hlt, hd])
            obtain ⟨nr, hnr⟩ : ∃ nr, nrB ctx l i d = nr := ⟨_, rfl⟩
            have HNR : Hid (nrB ctx l i d = nr) := hnr
            have HNE : Hid ((decide (0 < i) && decide (d.A - E ≤ 2 * ctx)) = nr) := (by show _ = _; rw [← hnr, nr_en hlt, HEL.out])
            have hgt := grp_take (ctx := ctx) hlt
            rw [hd] at hgt
            have HGT : Hid ((nrB ctx l i d = true → ∃ gs gl, grp ctx (l.take i) = gs ++ [gl] ∧ grp ctx (l.take (i + 1)) = gs ++ [gl ++ [d]]) ∧ (nrB ctx l i d = false → grp ctx (l.take (i + 1)) = grp ctx (l.take i) ++ [[d]])) := hgt
            have i1 : 0 ≤ (i : Int) := by omega
            have i2 : (i : Int) < (l.length : Int) := by omega
            obtain ⟨d0, d1, d2, d3⟩ := hgA
            have hbc := Cx.new wr d
            obtain ⟨x0, x1, x2, x3⟩ := hbc.cells
            have hS1 := hS.alloc (chO d)
            have hsz0 := hS.low.size
            have HSX : Hid ((wr.alloc (chO d)).heap.size = wr.heap.size + 1) := (by show _ = _; simp)
            have hW : wr.alloc (Obj.cells #[Value.int IntKind.i64 d.A, Value.int IntKind.i64 d.AN, Value.int IntKind.i64 d.B, Value.int IntKind.i64 d.BN] 64) = wr.alloc (chO d) := rfl
            have HIB : Hid (∀ x ∈ G, ∀ j, x.2.ownBlock = some j → j < wr.heap.size) := fun x hx j hj => own_lt (hS.ins x hx) hj
            clear hnr hgt HEL hS
            generalize hwr1 : wr.alloc (chO d) = wr1 at *
            go_upto_region 11 with fail
            clear hW d0 d1 d2 d3
            generalize hbC : wr.heap.size = bc at *
            go_cut [46] from 32 to 68 (fun c wz => c = .bool (!nr) ∧ wr1 = wz)
            case first =>
              by_cases hi0 : i = 0
              · have e1 : ((i : Int) == 0) = true := (by rw [beq_iff_eq]; omega)
                obtain rfl : nr = false := (by rw [← HNE.out, hi0]; rfl)
                clear HI HNR HGT HNE hi0
                go_wp2_with fail
                go_meet
                case rel => exact ⟨rfl, rfl⟩
              · have e1 : ((i : Int) == 0) = false := (by rw [beq_eq_false_iff_ne]; omega)
                have hne := HNE.out
                rw [decide_eq_true (by omega : 0 < i), Bool.true_and] at hne
                have e2 : decide (2 * ctx < d.A - E) = !nr := (by
                  rw [← hne]
                  by_cases hq : d.A - E ≤ 2 * ctx
                  · rw [decide_eq_true hq, decide_eq_false (by omega)]; rfl
                  · rw [decide_eq_false hq, decide_eq_true (by omega)]; rfl)
                clear HI HNR HGT HNE hi0 hne
                go_wp2_with fail
                go_meet
                case rel => exact ⟨rfl, rfl⟩
            case rest =>
            obtain ⟨rfl, rfl⟩ := hcut
            go_upto_if 46 with fail
            go_cut [11] from 32 to 68 (fun ov wz => ∃ (P : List (List Ch × Value)) (gl : List Ch) (gv : Value) (oo : Option Addr) (oc : Nat), ov = .slice oo (P.length + 1) oc ∧ P.length ≤ i ∧ gl.length ≤ l.length ∧ Gr w ov (P ++ [(gl, gv)]) wz ∧ Cx wz bc d ∧ Hid (gv.ownBlock ≠ some bc) ∧ Hid (Apt (P ++ [(gl, gv)])) ∧ Hid (P.map (·.1) ++ [gl ++ [d]] = grp ctx (l.take (i + 1))))
            case first =>
              cases nr with
              | true =>
                obtain ⟨gs, gl, hg1, hg2⟩ := HGT.out.1 HNR.out
                have hI := HI.out
                rw [hg1] at hI
                obtain ⟨P, gv, rfl, hPm⟩ := map_split hI
                have hgll : gl.length ≤ l.length := (by
                  have hf := grp_flatten ctx (l.take i)
                  rw [hg1] at hf
                  have := congrArg List.length hf
                  simp at this
                  omega)
                have HN : Hid (P.map (·.1) ++ [gl ++ [d]] = grp ctx (l.take (i + 1))) := (by show _ = _; rw [hg2, hPm])
                have eP : (P ++ [(gl, gv)]).length = P.length + 1 := by simp
                have hPl : P.length ≤ i := by rw [eP] at hGi; omega
                rw [eP] at hS1 ⊢
                clear HI HNR HGT hg1 hg2 hI hPm HNE hGi eP
                go_wp2_with fail
                go_meet
                case rel => exact ⟨P, gl, gv, _, _, rfl, hPl, hgll, hS1, hbc, fun e => (by have := HIB.out (gl, gv) (by simp) bc e; omega), HAP, HN⟩
              | false =>
                have hg2 := HGT.out.2 HNR.out
                have HN : Hid (G.map (·.1) ++ [[] ++ [d]] = grp ctx (l.take (i + 1))) := (by
                  show _ = _
                  rw [hg2, HI.out]
                  rfl)
                have hS2 := hS1.alloc (.cells #[.slice none 0 0] 25)
                have hrow2 := nil_row1 wr1
                have HS2 : Hid ((wr1.alloc (.cells #[.slice none 0 0] 25)).heap.size = wr1.heap.size + 1) := (by show _ = _; simp)
                have hbc2 : Cx (wr1.alloc (.cells #[.slice none 0 0] 25)) bc d := hbc.low ((Below.refl _ wr1).alloc (Nat.le_refl _) _)
                have hGl : G.length ≤ 1099511627776 := by omega
                have HAM : Hid (Apt (G ++ [([], .slice none 0 0)])) := apt_more HAP.out []
                clear HI HNR HGT hg2 HNE
                go_wp2_with (at_builtin; refine wpList_append_w _ (by kernel_rfl) (.tmp 47) (.tmp 48) 90 25 (.slice none 0 0) 1 24 rfl Tryz.underlying90 infoCs rfl (by decide) (by decide) w.heap.size _ _ _ rfl hS2.own _ 1 [.slice none 0 0] rfl hrow2 rfl (by intro u hu; simp at hu; subst hu; rfl) (by omega) (by have := HS2.out; have := HSX.out; omega) ?_)
                intro v3 u3 hown3 hg3 _
                have hS3 := hS2.more (g := []) (gv := .slice none 0 0) (hnil_row _ _ _ _) hg3 (ov' := v3) hown3
                have hbc3 := hbc2.keep hg3 (fun e => cx_ne hbc2 hS2.own e.symm)
                obtain ⟨o3, c3, rfl⟩ := (holds_of hown3).form
                clear hown3 hg3
                go_wp2_with fail
                go_meet
                case rel => exact ⟨G, [], _, _, _, rfl, hGi, Nat.zero_le _, hS3, hbc3, (fun e => by cases e), HAM, HN⟩
            case rest =>
              obtain ⟨P, gl, gv, oo, oc, rfl, hPl, hgll, hS4, hbz, HGV, HAP4, HN4⟩ := hcut
              generalize wc = wz at *
              have HN : ∀ gv' : Value, Hid ((P ++ [(gl ++ [d], gv')]).map (·.1) = grp ctx (l.take (i + 1))) := fun gv' => (by
                show _ = _
                rw [← HN4.out, List.map_append]
                rfl)
              clear HN4 hS1 hbc x0 x1 x2 x3 HAP HNR HNE HI HGT
              obtain ⟨qb, rfl⟩ := hown_at (by have h := hS4.own; rw [List.length_append, List.length_singleton] at h; exact h)
              have k1 : (0 : Int) ≤ (P.length : Int) := by omega
              have k2 : (P.length : Int) < (P.length : Int) + 1 := by omega
              go_upto_region 14 with fail
              have hGD := (hS4.drewN 1).alloc (chO d)
              have hda : ((wz.drewN 1).alloc (chO d)).heap.size = wz.heap.size + 1 := by simp
              have hsz := hS4.low.size
              have hlastown : ((wz.drewN 1).alloc (chO d)).ownsRow w.heap.size 64 4 gv gl.length (chcells gl) := hGD.ins (gl, gv) (by simp)
              obtain ⟨go, gc, hgv⟩ := (holds_of hlastown).form
              subst hgv
              obtain ⟨v3, u3, hr3, hown3, hg3, hb3⟩ := run_append_w ((wz.drewN 1).alloc (chO d)) 25 64 25 (.agg #[.int .i64 0, .int .i64 0, .int .i64 0, .int .i64 0]) 4 32 Tryz.underlying25 infoCh rfl (by decide) (by decide) w.heap.size _ _ _ hlastown _ 1 (chcells [d]) (ch_row (wz.drewN 1) d) rfl (chcells_one _) (by omega) (by rw [hda]; omega)
              rw [← chcells_append] at hown3
              obtain ⟨p3, q3, hv3⟩ := (holds_of hown3).form
              subst hv3
              have HA4 : Hid (Apt (P ++ [(gl ++ [d], Value.slice p3 (gl.length + 1) q3)])) := apt_last HAP4.out hGD hb3
              obtain ⟨qb', cap, hov, hcell3, hfr3, hG4, _⟩ := hGD.last (g' := gl ++ [d]) (apt_lst HAP4.out) hg3 (by rw [List.length_append]; exact hown3) hb3
              simp only [Value.slice.injEq, Option.some.injEq, Addr.mk.injEq] at hov
              obtain ⟨⟨rfl, _⟩, _, rfl⟩ := hov
              have hcellD : (wz.drewN 1).cell? ⟨qb, P.length, none⟩ = some (.slice go gl.length gc) := (by
                have h := hS4.own
                rw [List.length_append, List.length_singleton] at h
                have := h.cellAt P.length (by omega)
                rw [show (wz.drewN 1).cell? ⟨qb, P.length, none⟩ = wz.cell? ⟨qb, P.length, none⟩ from rfl, this]
                simp)
              have hcellA : ((wz.drewN 1).alloc (chO d)).cell? ⟨qb, P.length, none⟩ = some (.slice go gl.length gc) := (by
                have h := hGD.own
                rw [List.length_append, List.length_singleton] at h
                have := h.cellAt P.length (by omega)
                rw [this]
                simp)
              have hLD : Low w (wz.drewN 1) := Below.dN hS4.low 1
              have hLA : Low w ((wz.drewN 1).alloc (chO d)) := low_alloc _ hLD
              have hL3 : Low w u3 := Below.grown hLA hg3 (Below.size hLA) (fun j hj => owns_ge hlastown hj)
              have hL5 : Low w (u3.setCell ⟨qb, P.length, none⟩ (.slice p3 (gl.length + 1) q3)) := hG4.low
              have hSD : Low w (wz.drewN 1) ∧ Cx (wz.drewN 1) bc d := ⟨hLD, hbz⟩
              have hSA : Low w ((wz.drewN 1).alloc (chO d)) ∧ Cx ((wz.drewN 1).alloc (chO d)) bc d := ⟨hLA, Cx.low (u := wz.drewN 1) hbz ((Below.refl _ (wz.drewN 1)).alloc (Nat.le_refl _) _)⟩
              have hS3 : Low w u3 ∧ Cx u3 bc d := ⟨hL3, hSA.2.keep hg3 (fun e => HGV.out e.symm)⟩
              have hS5 : Low w (u3.setCell ⟨qb, P.length, none⟩ (.slice p3 (gl.length + 1) q3)) ∧ Cx (u3.setCell ⟨qb, P.length, none⟩ (.slice p3 (gl.length + 1) q3)) bc d := ⟨hL5, hS3.2.keep (grown_set u3 qb P.length _) (fun e => cx_ne hbz hS4.own e.symm)⟩
              obtain ⟨y0, y1, y2, y3⟩ := hS5.2.cells
              clear hown3 hg3 hb3 hlastown
              refine wp_region_noPanic ?_
              refine wp_region_held_drew (S := fun u => Low w u ∧ Cx u bc d) (by kernel_rfl) hSD (fun hHeld => ?_)
              refine go_take 0 55 _ (.pointer (some ⟨qb, P.length, none⟩)) rfl (by kernel_rfl) (by kernel_rfl) (by kernel_rfl) (by kernel_rfl) (fun _ _ _ h => h) (Or.inl ⟨by kernel_rfl, fun u hu => by kernel_rfl⟩) hHeld ?_
              simp only [Act.put, List.setIfInBounds_toArray, List.set_cons_zero, List.set_cons_succ]
              refine go_take 1 56 _ (.pointer (some ⟨qb, P.length, none⟩)) rfl (by kernel_rfl) (by kernel_rfl) (by kernel_rfl) (by kernel_rfl) (fun _ _ _ h => h) (Or.inl ⟨by kernel_rfl, fun u hu => by kernel_rfl⟩) hHeld ?_
              simp only [Act.put, List.setIfInBounds_toArray, List.set_cons_zero, List.set_cons_succ]
              refine go_take 2 57 _ (.pointer (some ⟨qb, P.length, none⟩)) rfl (by kernel_rfl) (by kernel_rfl) (by kernel_rfl) (by kernel_rfl) (fun _ _ _ h => h) (Or.inl ⟨by kernel_rfl, fun u hu => exec_nil (.tmp 56) (by kernel_rfl) (by kernel_rfl)⟩) hHeld ?_
              simp only [Act.put, List.setIfInBounds_toArray, List.set_cons_zero, List.set_cons_succ]
              refine go_take 4 59 _ (chV d) rfl (by kernel_rfl) (by kernel_rfl) (by kernel_rfl) (by kernel_rfl) (fun _ _ _ h => h) (Or.inl ⟨by kernel_rfl, fun u hu => load_chR hu.2.cells (.tmp 14) (by kernel_rfl) (by kernel_rfl)⟩) hHeld ?_
              simp only [Act.put, List.setIfInBounds_toArray, List.set_cons_zero, List.set_cons_succ]
              refine go_two 3 58 _ 5 60 _ rfl (by kernel_rfl) rfl (by kernel_rfl) (by kernel_rfl) (by kernel_rfl) (by kernel_rfl) (.slice go gl.length gc) (wz.drewN 1) (load_chs hcellD (.tmp 57) (by kernel_rfl) (by kernel_rfl)) hSD (.slice (some ⟨(wz.drewN 1).heap.size, 0, none⟩) 1 1) ((wz.drewN 1).alloc (chO d)) (by kernel_rfl) hSA ?_ ?_
              · simp only [Act.put, List.setIfInBounds_toArray, List.set_cons_zero, List.set_cons_succ]
                refine go_val 5 60 _ rfl (by kernel_rfl) (by kernel_rfl) (by kernel_rfl) (.slice (some ⟨(wz.drewN 1).heap.size, 0, none⟩) 1 1) ((wz.drewN 1).alloc (chO d)) (by kernel_rfl) (hSA) ?_
                simp only [Act.put, List.setIfInBounds_toArray, List.set_cons_zero, List.set_cons_succ]
                refine go_val 6 61 _ rfl (by kernel_rfl) (by kernel_rfl) (by kernel_rfl) (.slice p3 (gl.length + 1) q3) (u3) (exec_app (.tmp 58) (.tmp 60) (by kernel_rfl) (by kernel_rfl) (by kernel_rfl) hr3) (hS3) ?_
                simp only [Act.put, List.setIfInBounds_toArray, List.set_cons_zero, List.set_cons_succ]
                refine go_take 7 62 _ (.pointer (some ⟨qb, P.length, none⟩)) rfl (by kernel_rfl) (by kernel_rfl) (by kernel_rfl) (by kernel_rfl) (fun _ _ _ h => h) (Or.inl ⟨by kernel_rfl, fun u hu => exec_nil (.tmp 55) (by kernel_rfl) (by kernel_rfl)⟩) hS3 ?_
                simp only [Act.put, List.setIfInBounds_toArray, List.set_cons_zero, List.set_cons_succ]
                refine go_skip 8 _ rfl (by kernel_rfl) (by kernel_rfl) (by kernel_rfl) (u3.setCell ⟨qb, P.length, none⟩ (.slice p3 (gl.length + 1) q3)) (exec_storeG hfr3 hcell3 (.tmp 62) (.tmp 61) (by kernel_rfl) (by kernel_rfl) (by kernel_rfl)) (hS5) ?_
                refine wpAnyH_done (by kernel_rfl) ?_ _
                refine NoPanic.normal ?_
                go_wp2
                exact ⟨⟨i + 1, P ++ [(gl ++ [d], .slice p3 (gl.length + 1) q3)], _, by omega, by go_num, by go_num, ⟨_, _, by rw [List.length_append, List.length_singleton]⟩, by rw [List.length_append, List.length_singleton]; omega, hG4, HA4, HN _, HEN⟩, by simp [intOf]; omega⟩
              · simp only [Act.put, List.setIfInBounds_toArray, List.set_cons_zero, List.set_cons_succ]
                refine go_val 3 58 _ rfl (by kernel_rfl) (by kernel_rfl) (by kernel_rfl) (.slice go gl.length gc) ((wz.drewN 1).alloc (chO d)) (load_chs hcellA (.tmp 57) (by kernel_rfl) (by kernel_rfl)) (hSA) ?_
                simp only [Act.put, List.setIfInBounds_toArray, List.set_cons_zero, List.set_cons_succ]
                refine go_val 6 61 _ rfl (by kernel_rfl) (by kernel_rfl) (by kernel_rfl) (.slice p3 (gl.length + 1) q3) (u3) (exec_app (.tmp 58) (.tmp 60) (by kernel_rfl) (by kernel_rfl) (by kernel_rfl) hr3) (hS3) ?_
                simp only [Act.put, List.setIfInBounds_toArray, List.set_cons_zero, List.set_cons_succ]
                refine go_take 7 62 _ (.pointer (some ⟨qb, P.length, none⟩)) rfl (by kernel_rfl) (by kernel_rfl) (by kernel_rfl) (by kernel_rfl) (fun _ _ _ h => h) (Or.inl ⟨by kernel_rfl, fun u hu => exec_nil (.tmp 55) (by kernel_rfl) (by kernel_rfl)⟩) hS3 ?_
                simp only [Act.put, List.setIfInBounds_toArray, List.set_cons_zero, List.set_cons_succ]
                refine go_skip 8 _ rfl (by kernel_rfl) (by kernel_rfl) (by kernel_rfl) (u3.setCell ⟨qb, P.length, none⟩ (.slice p3 (gl.length + 1) q3)) (exec_storeG hfr3 hcell3 (.tmp 62) (.tmp 61) (by kernel_rfl) (by kernel_rfl) (by kernel_rfl)) (hS5) ?_
                refine wpAnyH_done (by kernel_rfl) ?_ _
                refine NoPanic.normal ?_
                go_wp2
                exact ⟨⟨i + 1, P ++ [(gl ++ [d], .slice p3 (gl.length + 1) q3)], _, by omega, by go_num, by go_num, ⟨_, _, by rw [List.length_append, List.length_singleton]⟩, by rw [List.length_append, List.length_singleton]; omega, hG4, HA4, HN _, HEN⟩, by simp [intOf]; omega⟩
          · have HIe : Hid (G.map (·.1) = R) := (by
              show _ = _
              rw [HI.out, List.take_of_length_le (by omega)]
              exact HR2.out)
            have hend : decide ((i : Int) < (l.length : Int)) = false := decide_eq_false (by omega)
            clear HI
            go_wp2
            go_ret2
            exact ⟨_, G, rfl, hS, HAP.out, HIe.out⟩
  · have hc1 : (ck != 0) = true := by simpa using hc0
    have HE : Hid (z = ck) := (by
      show _ = _
      rw [← HZ.out]
      unfold grpE
      rw [HCK.out]
      simp [hc0])
    have HRN : Hid (R = []) := (by
      show _ = _
      rw [← HR.out]
      unfold grpR
      rw [HZ.out, HE.out, if_neg (by exact hc0)])
    clear HZ HR HCK hc0
    go_wp2
    go_ret2
    rw [HE.out, HRN.out]
    exact ⟨_, [], rfl, ⟨hBW, hnil_row _ _ _ _, fun _ h => by cases h⟩, List.Pairwise.nil, rfl⟩
end Go.Proofs.YtgiojkhmkeocfaaGreatDoor

/- A region that draws its order, in a round: ten operations that read, in whatever order, then the rest as the text has it. -/
set_option maxRecDepth 20000
namespace Go.Proofs.YtgiojkhmkeocfaaGreatDoor
open Go.RowKit Go.Shelf
namespace R10

abbrev B10 := Fin 10 → Bool
def lst (b : B10) : Array Bool := #[b 0, b 1, b 2, b 3, b 4, b 5, b 6, b 7, b 8, b 9, false, false]
def upd (b : B10) (i : Fin 10) : B10 := fun j => if j = i then true else b j
def one (c : Bool) : Nat := if c then 1 else 0
def cnt (b : B10) : Nat := one (b 0) + one (b 1) + one (b 2) + one (b 3) + one (b 4) + one (b 5) + one (b 6) + one (b 7) + one (b 8) + one (b 9)
theorem lst_upd (b : B10) (i : Fin 10) : (lst b).setIfInBounds i.1 true = lst (upd b i) := by
  rcases i with ⟨i, hi⟩
  rcases (by omega : i = 0 ∨ i = 1 ∨ i = 2 ∨ i = 3 ∨ i = 4 ∨ i = 5 ∨ i = 6 ∨ i = 7 ∨ i = 8 ∨ i = 9) with rfl | rfl | rfl | rfl | rfl | rfl | rfl | rfl | rfl | rfl <;> simp [lst, upd]
theorem cnt_upd (b : B10) (i : Fin 10) (h : b i = false) : cnt (upd b i) = cnt b + 1 := by
  rcases i with ⟨i, hi⟩
  rcases (by omega : i = 0 ∨ i = 1 ∨ i = 2 ∨ i = 3 ∨ i = 4 ∨ i = 5 ∨ i = 6 ∨ i = 7 ∨ i = 8 ∨ i = 9) with rfl | rfl | rfl | rfl | rfl | rfl | rfl | rfl | rfl | rfl <;> (simp only [Fin.isValue, Fin.mk_zero, Fin.mk_one, Fin.reduceFinMk] at h; simp [cnt, upd, one, h]; try omega)
theorem one_le (c : Bool) : one c ≤ 1 := by cases c <;> simp [one]
theorem cnt_le (b : B10) : cnt b ≤ 10 := by
  have := fun i => one_le (b i)
  have h0 := this 0; have h1 := this 1; have h2 := this 2; have h3 := this 3; have h4 := this 4; have h5 := this 5; have h6 := this 6; have h7 := this 7; have h8 := this 8; have h9 := this 9
  unfold cnt
  omega

/-- which reads must lie ahead of one -/
def deps : Fin 10 → List (Fin 10)
  | 3 => [2]
  | 5 => [4]
  | 7 => [6]
  | 8 => [5, 7]
  | 9 => [1, 3, 8]
  | _ => []

/-- what lies ahead of a read that has come has come -/
def closedB (b : B10) : Bool := (List.finRange 10).all fun i => !(b i) || (deps i).all b
theorem closed_upd (b : B10) (i : Fin 10) (h : closedB b = true) (hd : ∀ j ∈ deps i, b j = true) : closedB (upd b i) = true := by
  simp only [closedB, List.all_eq_true, List.mem_finRange, Bool.or_eq_true, Bool.not_eq_true', forall_const] at h ⊢
  intro k
  have hup : ∀ j, b j = true → upd b i j = true := fun j hj => by unfold upd; split <;> simp_all
  by_cases hk : k = i
  · exact .inr fun j hj => hup j (hd j (hk ▸ hj))
  · rcases h k with h1 | h1
    · left
      unfold upd
      rw [if_neg hk]
      exact h1
    · exact .inr fun j hj => hup j (h1 j hj)
/-- what may come up next -/
def chkReady (ops : Array Oper) (b : B10) : Bool :=
  !(closedB b) || !(Region.ready .any ops (lst b)).isEmpty && (Region.ready .any ops (lst b)).all fun i =>
    if h : i < 10 then !(b ⟨i, h⟩) && (deps ⟨i, h⟩).all b else i == 10 && (List.finRange 10).all b

theorem any10 {F : Fence} {n : Nat} {P : Program} {ops : Array Oper} {Q : Exit → Act → World → Prop} {w : World} (act : B10 → Act)
    (hr : ∀ b, chkReady ops b = true)
    (hstep : ∀ (b : B10) (i : Fin 10), (∀ j ∈ deps i, b j = true) → ∀ K : Act → World → Prop, K (act (upd b i)) w → wpOpIn F n P ops Q i.1 K (act b) w)
    (hfin : wpOpIn F n P ops Q 10 (wpAnyIn F n P .any ops Q 1 #[true, true, true, true, true, true, true, true, true, true, true, false]) (act fun _ => true) w) :
    wpAnyIn F n P .any ops Q 12 (lst fun _ => false) (act fun _ => false) w := by
  have main : ∀ (fuel : Nat) (b : B10), closedB b = true → fuel + cnt b = 12 → wpAnyIn F n P .any ops Q fuel (lst b) (act b) w := by
    intro fuel
    induction fuel with
    | zero => intro b _ h; have := cnt_le b; omega
    | succ f ih =>
      intro b hcl h
      have hb := hr b
      unfold chkReady at hb
      rw [hcl] at hb
      simp only [Bool.not_true, Bool.false_or] at hb
      simp only [Bool.and_eq_true, List.all_eq_true] at hb
      refine ⟨fun h0 => ?_, fun i hi => ?_⟩
      · rw [h0] at hb
        simp at hb
      · have h1 := hb.2 i hi
        split at h1
        · rename_i hlt
          simp only [Bool.and_eq_true, Bool.not_eq_true', List.all_eq_true] at h1
          refine hstep b ⟨i, hlt⟩ h1.2 _ ?_
          have e := lst_upd b ⟨i, hlt⟩
          dsimp only at e
          rw [e]
          exact ih _ (closed_upd b ⟨i, hlt⟩ hcl h1.2) (by rw [cnt_upd b ⟨i, hlt⟩ h1.1]; omega)
        · simp only [Bool.and_eq_true, beq_iff_eq, List.all_eq_true, List.mem_finRange, forall_const] at h1
          obtain ⟨rfl, hall⟩ := h1
          obtain rfl : b = fun _ => true := funext hall
          obtain rfl : f = 1 := by
            have : cnt (fun _ => true) = 10 := rfl
            omega
          exact hfin
  exact main 12 _ rfl rfl

/-- a slot that an operation has written, or not yet -/
def pickV (c : Bool) (v : Value) : Value := cond c v undef
theorem pickV_true {c : Bool} (h : c = true) (v : Value) : pickV c v = v := by rw [h]; rfl
theorem wpOpIn_yield {F : Fence} {n : Nat} {P : Program} {ops : Array Oper} {Q : Exit → Act → World → Prop} {i : Nat} {o : Oper} {K : Act → World → Prop} {a : Act} {w : World} {v : Value} (ho : ops[i]? = some o) (hg : o.guard = none) (hnd : ∀ c, o.op ≠ .defer c)
    (hab : o.about P w a.eval = none) (hrun : (execOp a.eval o).run P w = .ok (.value v) w) (hK : K (a.put o.dst v) w) : wpOpIn F n P ops Q i K a w := by
  unfold wpOpIn
  simp only [ho]
  have hw : Region.wanted o (yielded ops a.tmps) = true := by simp [Region.wanted, hg]
  rw [if_pos hw]
  refine ⟨fun f hf => (by rw [hab] at hf; cases hf), ?_⟩
  rw [Oper.semAt_plain F _ _ hnd, hrun]
  exact hK
def mk10 (b0 b1 b2 b3 b4 b5 b6 b7 b8 b9 : Bool) : B10 := fun i => match i with
  | 0 => b0 | 1 => b1 | 2 => b2 | 3 => b3 | 4 => b4 | 5 => b5 | 6 => b6 | 7 => b7 | 8 => b8 | 9 => b9
theorem mk10_eta (b : B10) : b = mk10 (b 0) (b 1) (b 2) (b 3) (b 4) (b 5) (b 6) (b 7) (b 8) (b 9) := by
  funext ⟨i, hi⟩
  rcases (by omega : i = 0 ∨ i = 1 ∨ i = 2 ∨ i = 3 ∨ i = 4 ∨ i = 5 ∨ i = 6 ∨ i = 7 ∨ i = 8 ∨ i = 9) with rfl | rfl | rfl | rfl | rfl | rfl | rfl | rfl | rfl | rfl <;> rfl
theorem chk_all {ops : Array Oper} (h : ∀ b0 b1 b2 b3 b4 b5 b6 b7 b8 b9 : Bool, chkReady ops (mk10 b0 b1 b2 b3 b4 b5 b6 b7 b8 b9) = true) (b : B10) : chkReady ops b = true := by
  rw [mk10_eta b]
  exact h _ _ _ _ _ _ _ _ _ _

theorem wpOpIn_append_h {F : Fence} {n : Nat} (w : World) {ops : Array Oper} {i : Nat} {o : Oper} {a : Act} {K : Act → World → Prop} {Q : Exit → Act → World → Prop} (hi : ops[i]? = some o)
    (hg : o.guard = none) (s x : Operand) (T E : TypeId) (ho : o.op = Op.call { callee := Callee.builtin Builtin.append, args := #[s, x], argTypes := #[T, T] })
    (z : Value) (size bytes : Nat) (hT : Tryz.prog.underlying T = some (.slice E)) (hinfo : (Tryz.prog.info? E).map (fun i => (i.zero, i.size, i.bytes)) = some (some z, size, bytes)) (hz1 : z.cells.size = size) (hsz : 0 < size) (hby : bytes ≤ 32)
    (base : Nat) (v : Value) (k : Nat) (xs : List Value) (hs : a.eval s = v) (hown : w.ownsRow base E size v k xs) (vx : Value) (m : Nat) (news : List Value) (hx : a.eval x = vx) (hh : Holds w vx m news) (hl : news.length = m * size)
    (h1 : ∀ u ∈ news, u.oneCell' = true) (hk : k + m ≤ 4398046511104) (hbase : base ≤ w.heap.size)
    (h : ∀ v' w', w'.ownsRow base E size v' (k + m) (xs ++ news) → w.grownBy w' v.ownBlock → (v'.ownBlock = v.ownBlock ∨ v'.ownBlock = some w.heap.size) → K (a.put o.dst v') w') :
    wpOpIn F n Tryz.prog ops Q i K a w := by
  obtain ⟨i0, hi0, hz0, hzs, hz2⟩ := info_parts hinfo
  have hrun : ∃ v' w', (Builtin.append_ #[T, T] o.type #[v, vx]).run Tryz.prog w = .ok v' w' ∧ w'.ownsRow base E size v' (k + m) (xs ++ news) ∧ w.grownBy w' v.ownBlock ∧ (v'.ownBlock = v.ownBlock ∨ v'.ownBlock = some w.heap.size) := by
    rcases hh with ⟨rfl, rfl, rfl⟩ | ⟨ad, c, rfl, _, hc⟩
    · exact ⟨v, w, run_append_owned_none (P := Tryz.prog) (w := w) base T o.type E i0 size hT hi0 v k xs hown, by simpa using hown, World.grownBy.refl _ _, .inl rfl⟩
    · obtain ⟨v', w', hr, h2, h3, _, h5⟩ := run_append_own_at (P := Tryz.prog) w base T o.type E i0 z size bytes hT hi0 hz0 hzs hz2 hz1 hsz v k xs hown ad m c news hl hc h1 (by unfold maxLen; omega) (by
        have : (k + m) * bytes ≤ (k + m) * 32 := Nat.mul_le_mul_left _ hby
        omega) hbase
      exact ⟨v', w', hr, h2, h3, h5⟩
  obtain ⟨v', w', hrun, r1, r2, r3⟩ := hrun
  unfold wpOpIn
  simp only [hi]
  have hw : Region.wanted o (yielded ops a.tmps) = true := by simp [Region.wanted, hg]
  rw [if_pos hw]
  unfold Oper.wpIn
  refine ⟨?_, ?_⟩
  · simp [Oper.about, ho, resolve, Target.leads, Sem.run_pure]
  · rw [Oper.semAt_plain F _ _ (by rw [ho]; intro c hc'; cases hc')]
    simp [execOp, ho, resolve, invoke, builtin, hs, hx, hrun, Result.andThen]
    exact h v' w' r1 r2 r3
end R10
end Go.Proofs.YtgiojkhmkeocfaaGreatDoor

/- What a script makes of a text: the code's Apply, walked. -/
set_option maxRecDepth 20000
namespace Go.Proofs.YtgiojkhmkeocfaaGreatDoor
open Go.RowKit Go.Shelf
open R10
attribute [local go_sem] Oper.semAt_some


theorem cut_at (A : List (List UInt8)) (i n : Int) (j : Nat) (u : Value) (h : (scells (cut A i n))[j]? = some u) : (scells A)[i.toNat + j]? = some u ∧ j < n.toNat := by
  simp only [scells, cut, List.getElem?_map, List.getElem?_take, List.getElem?_drop] at h ⊢
  split at h
  · exact ⟨h, by assumption⟩
  · simp at h
theorem cut_length (A : List (List UInt8)) (i n : Int) (h0 : 0 ≤ i) (h1 : 0 ≤ n) (h2 : i + n ≤ A.length) : (cut A i n).length = n.toNat := by
  simp [cut]; omega
set_option maxRecDepth 10000 in
theorem run_cut (A : List (List UInt8)) (ao : Option Addr) (cap : Nat) (i n : Int) (h0 : 0 ≤ i) (h1 : 0 ≤ n) (h2 : i + n ≤ A.length) (w : World) (hA : HS w (.slice ao A.length cap) A) :
    ∃ vs, (∀ u : World, (Instr.slice 23 (.slice ao A.length cap) (some (.int .i64 i)) (some (.int .i64 (i + n))) none).run Tryz.prog u = .ok vs u) ∧ (∀ u : World, HS u (.slice ao A.length cap) A → HS u vs (cut A i n)) := by
  have hnc : A.length ≤ cap ∧ (ao = none → A = []) := by
    rcases hA with ⟨h, h3, _⟩ | ⟨ad, c, h, h3, _⟩
    · exact ⟨by omega, fun _ => List.eq_nil_of_length_eq_zero h3⟩
    · cases h
      exact ⟨h3, fun h => by cases h⟩
  refine ⟨.slice (if cap = i.toNat then ao else ao.map (·.add i.toNat)) n.toNat (cap - i.toNat), fun u => ?_, fun u hu => ?_⟩
  · rw [run_slice_lh (P := Tryz.prog) u 23 ao A.length cap (by kernel_rfl) .i64 .i64 i (i + n) h0 (by omega) (by omega)]
    have : (sizeOf (Tryz.prog.elem 23)).run Tryz.prog u = .ok 1 u := by kernel_rfl
    rw [this]
    simp only [Result.andThen, sliced, Nat.mul_one]
    congr 2
    omega
  · unfold HS
    rw [cut_length A i n h0 h1 h2]
    cases ao with
    | none =>
      have hA0 := hnc.2 rfl
      subst hA0
      have : i = 0 := by simp at h2; omega
      subst this
      have : n = 0 := by simp at h2; omega
      subst this
      refine .inl ⟨?_, rfl, by simp [cut, scells]⟩
      rcases hA with ⟨h, h3, _⟩ | ⟨ad, c, h, h3, _⟩
      · cases h; simp
      · cases h
    | some ad =>
      refine .inr ⟨if cap = i.toNat then ad else ad.add i.toNat, cap - i.toNat, by split <;> simp, by omega, fun j x hj => ?_⟩
      obtain ⟨h4, h5⟩ := cut_at A i n j x hj
      rcases hu with ⟨h, _⟩ | ⟨ad', c, h, h3, hc⟩
      · cases h
      · cases h
        have := hc _ _ h4
        rw [if_neg (by omega)]
        obtain ⟨b, off, rfl⟩ := addr_of (hc 0 _ (List.getElem?_eq_getElem (by rw [scells_length]; omega)))
        rw [add_none] at this
        rw [add_none, add_none, Nat.add_assoc]
        exact this

theorem pas_length {n m : Int} (A B : List (List UInt8)) (pre : List (Pie n m)) : (pre.flatMap fun x => pa A B x.1).length ≤ pre.length * (A.length + B.length) := by
  induction pre with
  | nil => simp
  | cons x t ih =>
    have h1 : (pa A B x.1).length ≤ A.length + B.length := by simp [pa, cut]; omega
    simp only [List.flatMap_cons, List.length_append, List.length_cons]
    rw [Nat.add_mul]
    omega
end Go.Proofs.YtgiojkhmkeocfaaGreatDoor

/- SameStrings of the reference, walked at two slices that hold the same. -/
set_option maxRecDepth 20000
namespace Go.Proofs.YtgiojkhmkeocfaaGreatDoor
open Go.RowKit

end Go.Proofs.YtgiojkhmkeocfaaGreatDoor

/- What a script makes of a text: the reference's Apply, walked. -/
set_option maxRecDepth 20000
namespace Go.Proofs.YtgiojkhmkeocfaaGreatDoor
open Go.RowKit
attribute [local simp] st_drew low_drew

theorem run_cut_to (A : List (List UInt8)) (ao : Option Addr) (cap : Nat) (i h : Int) (h0 : 0 ≤ i) (h1 : i ≤ h) (h2 : h ≤ A.length) (w : World) (hA : HS w (.slice ao A.length cap) A) :
    ∃ vo vc, (∀ u : World, (Instr.slice 23 (.slice ao A.length cap) (some (.int .i64 i)) (some (.int .i64 h)) none).run Tryz.prog u = .ok (.slice vo (cut A i (h - i)).length vc) u) ∧ (∀ u : World, HS u (.slice ao A.length cap) A → HS u (.slice vo (cut A i (h - i)).length vc) (cut A i (h - i))) := by
  obtain ⟨vs, h3, h4⟩ := run_cut A ao cap i (h - i) h0 (by omega) (by omega) w hA
  obtain ⟨vo, vc, rfl⟩ := Holds.form (h4 w hA)
  have e : i + (h - i) = h := by omega
  rw [e] at h3
  exact ⟨vo, vc, h3, h4⟩
theorem run_cut_end (A : List (List UInt8)) (ao : Option Addr) (cap : Nat) (i : Int) (h0 : 0 ≤ i) (h1 : i ≤ A.length) (w : World) (hA : HS w (.slice ao A.length cap) A) :
    ∃ vo vc, (∀ u : World, (Instr.slice 23 (.slice ao A.length cap) (some (.int .i64 i)) none none).run Tryz.prog u = .ok (.slice vo (cut A i (A.length - i)).length vc) u) ∧ (∀ u : World, HS u (.slice ao A.length cap) A → HS u (.slice vo (cut A i (A.length - i)).length vc) (cut A i (A.length - i))) := by
  obtain ⟨vo, vc, h3, h4⟩ := run_cut_to A ao cap i A.length h0 h1 (Int.le_refl _) w hA
  refine ⟨vo, vc, fun u => ?_, h4⟩
  rw [← h3 u]
  have hcap : A.length ≤ cap := by
    rcases hA with ⟨h, h3, _⟩ | ⟨ad, c, h, h3, _⟩
    · omega
    · cases h; exact h3
  rw [run_slice_l (P := Tryz.prog) u 23 ao A.length cap (by kernel_rfl) .i64 i h0 h1, run_slice_lh (P := Tryz.prog) u 23 ao A.length cap (by kernel_rfl) .i64 .i64 i A.length h0 h1 (by omega)]
  simp

theorem piecesL_length (a b n m : Int) (l : List Ch) : (piecesL a b n m l).length = l.length + 1 := by
  induction l generalizing a b with
  | nil => rfl
  | cons c l ih => simp [piecesL, ih]
theorem applyL_length (l : List Ch) (A B : List (List UInt8)) : (applyL l A B).length ≤ (l.length + 1) * (A.length + B.length) := by
  rw [← piecesL_length 0 0 A.length B.length l]
  unfold applyL
  generalize piecesL 0 0 A.length B.length l = ps
  induction ps with
  | nil => simp
  | cons x t ih =>
    have h1 : (pa A B x).length ≤ A.length + B.length := by simp [pa, cut]; omega
    simp only [List.flatMap_cons, List.length_append, List.length_cons]
    rw [Nat.add_mul]
    omega
/-- what the rest of a script makes -/
def restA (A B : List (List UInt8)) (a b : Int) (l : List Ch) : List (List UInt8) := (piecesL a b A.length B.length l).flatMap (pa A B)
theorem restA_cons (A B : List (List UInt8)) (a b : Int) (c : Ch) (l : List Ch) : restA A B a b (c :: l) = cut A a (c.A - a) ++ cut B c.B c.BN ++ restA A B (c.A + c.AN) (c.B + c.BN) l := by simp [restA, piecesL, pa]
theorem restA_nil (A B : List (List UInt8)) (a b : Int) : restA A B a b [] = cut A a (A.length - a) := by simp [restA, piecesL, pa, cut]

end Go.Proofs.YtgiojkhmkeocfaaGreatDoor

/- The code's closure that lays the lines of a hunk, walked: the hunk in a box of one's own. -/
set_option maxRecDepth 20000
namespace Go.Proofs.YtgiojkhmkeocfaaGreatDoor
open Go.RowKit

/-- a hunk that grows in a box: its lines in a row of one's own, all else as it was -/
structure La (w : World) (q : Hk) (ov : Value) (u : World) : Prop where
  low : Below w.heap.size w u
  box : Hx u w.heap.size q ov
  own : u.ownsRow (w.heap.size + 1) 103 2 ov q.ls.length (mkcells q.ls)
/-- boxed changes stay -/
def CK (u u' : World) : Prop := ∀ B c, Cx u B c → Cx u' B c
theorem ck_refl (u : World) : CK u u := fun _ _ h => h
theorem ck_trans {u u' u'' : World} (h : CK u u') (h' : CK u' u'') : CK u u'' := fun B c q => h' B c (h B c q)
theorem ck_low {u u' : World} (h : Below u.heap.size u u') : CK u u' := fun _ _ q => q.low h
theorem cx_neM {u : World} {b : Nat} {d : Ch} (h : Cx u b d) {B s n : Nat} {v : Value} {xs : List Value} (ho : u.ownsRow B 103 s v n xs) : v.ownBlock ≠ some b := by
  intro e
  rcases ho.2 with ⟨rfl, _⟩ | ⟨g, cap, cur, rfl, _, hg, _⟩
  · cases e
  · simp only [Value.ownBlock, Option.some.injEq] at e
    subst e
    unfold Cx chO at h
    rw [h] at hg
    simp at hg
theorem cx_neH {u : World} {b b' : Nat} {d : Ch} (h : Cx u b d) {q : Hk} {v : Value} (hx : Hx u b' q v) : b ≠ b' := by
  rintro rfl
  unfold Cx chO at h
  unfold Hx hkO at hx
  rw [h] at hx
  simp at hx
section
variable {w u u' : World} {q : Hk} {ov ov' : Value} {x' : List Mk}
theorem La.alloc (h : La w q ov u) (o : Obj) : La w q ov (u.alloc o) := ⟨h.low.alloc h.low.size o, h.box.low ((Below.refl _ u).alloc (Nat.le_refl _) o), h.own.alloc o⟩
theorem La.drewN (h : La w q ov u) (n : Nat) : La w q ov (u.drewN n) := ⟨Below.dN h.low n, h.box, h.own⟩
theorem La.keep (h : La w q ov u) (hk : Below u.heap.size u u') : La w q ov u' := ⟨h.low.trans (hk.mono h.low.size), h.box.low hk, owns_keep h.own hk⟩
theorem La.ck (h : La w q ov u) (j : Nat) (z : Value) : CK u (u.setCell ⟨w.heap.size, j, none⟩ z) := fun _ _ p => p.keep (grown_set u _ j z) (fun e => cx_neH p h.box (Option.some.inj e))
/-- lines more -/
theorem La.grow (h : La w q ov u) (hg : u.grownBy u' ov.ownBlock) (ho : u'.ownsRow (w.heap.size + 1) 103 2 ov' x'.length (mkcells x')) : Hx u' w.heap.size q ov ∧ La w ⟨q.A, q.AN, q.B, q.BN, x'⟩ ov' (u'.setCell ⟨w.heap.size, 4, none⟩ ov') ∧ CK u (u'.setCell ⟨w.heap.size, 4, none⟩ ov') := by
  have hbx : Hx u' w.heap.size q ov := h.box.keep hg (fun e => by have := owns_ge h.own e.symm; omega)
  have hs := grown_set u' w.heap.size 4 ov'
  have hlow : Below w.heap.size w u' := h.low.grown hg h.low.size (fun j hj => by have := owns_ge h.own hj; omega)
  refine ⟨hbx, ⟨hlow.grown hs hlow.size (fun j hj => by cases hj; exact Nat.le_refl _), hbx.setl ov', own_kept ho hs ?_⟩, ?_⟩
  · intro k hk e
    cases hk
    have := owns_ge ho e
    omega
  · intro B c p
    have p1 := p.keep hg (fun e => cx_neM p h.own e.symm)
    exact p1.keep hs (fun e => cx_neH p1 hbx (Option.some.inj e))
theorem La.own_set (h : La w q ov u) (j : Nat) (z : Value) : Below w.heap.size w (u.setCell ⟨w.heap.size, j, none⟩ z) ∧ (u.setCell ⟨w.heap.size, j, none⟩ z).ownsRow (w.heap.size + 1) 103 2 ov q.ls.length (mkcells q.ls) := by
  have hs := grown_set u w.heap.size j z
  refine ⟨h.low.grown hs h.low.size (fun j hj => by cases hj; exact Nat.le_refl _), own_kept h.own hs ?_⟩
  intro k hk e
  cases hk
  have := owns_ge h.own e
  omega
/-- a number is written -/
theorem La.setA (h : La w q ov u) (z : Int) : La w ⟨z, q.AN, q.B, q.BN, q.ls⟩ ov (u.setCell ⟨w.heap.size, 0, none⟩ (.int .i64 z)) := ⟨(h.own_set 0 _).1, heap_setCell_same u _ 0 _ _ _ h.box, (h.own_set 0 _).2⟩
theorem La.setAN (h : La w q ov u) (z : Int) : La w ⟨q.A, z, q.B, q.BN, q.ls⟩ ov (u.setCell ⟨w.heap.size, 1, none⟩ (.int .i64 z)) := ⟨(h.own_set 1 _).1, heap_setCell_same u _ 1 _ _ _ h.box, (h.own_set 1 _).2⟩
theorem La.setB (h : La w q ov u) (z : Int) : La w ⟨q.A, q.AN, z, q.BN, q.ls⟩ ov (u.setCell ⟨w.heap.size, 2, none⟩ (.int .i64 z)) := ⟨(h.own_set 2 _).1, heap_setCell_same u _ 2 _ _ _ h.box, (h.own_set 2 _).2⟩
theorem La.setBN (h : La w q ov u) (z : Int) : La w ⟨q.A, q.AN, q.B, z, q.ls⟩ ov (u.setCell ⟨w.heap.size, 3, none⟩ (.int .i64 z)) := ⟨(h.own_set 3 _).1, heap_setCell_same u _ 3 _ _ _ h.box, (h.own_set 3 _).2⟩
end
theorem pk_mks {no sg : Int} (t : List (List UInt8)) : pkL no (mks sg t) = if sg ≠ no ∧ okS sg = true then t else [] := by
  induction t with
  | nil => simp [mks, pkL]
  | cons s t ih =>
    rw [mks_cons, pkL, ih]
    split <;> rfl
theorem mks_length (sg : Int) (t : List (List UInt8)) : (mks sg t).length = t.length := by simp [mks]

set_option maxRecDepth 10000 in
set_option maxHeartbeats 4000000 in
theorem hlay_f (w u : World) (q : Hk) (ov : Value) (sg : Int) (t : List (List UInt8)) (vt : Value) (hL : La w q ov u) (hsg : sg = 32 ∨ sg = 45 ∨ sg = 43) (ht : HS w vt t) (hlen : q.ls.length + t.length ≤ 1099511627776) (han : 0 ≤ q.AN ∧ q.AN ≤ 4611686018427387904) (hbn : 0 ≤ q.BN ∧ q.BN ≤ 4611686018427387904) (an bn : Int) (x' : List Mk) (HAN : Hid (q.AN + ((pkL 43 (mks sg t)).length : Int) = an)) (HBN : Hid (q.BN + ((pkL 45 (mks sg t)).length : Int) = bn)) (HX : Hid (q.ls ++ mks sg t = x')) : Calls Tryz.prog 87 #[.int .u8 sg, vt, .pointer (some ⟨w.heap.size, 0, none⟩)] u fun e u' => e = .returned (.tuple #[]) ∧ (∃ ov', La w ⟨q.A, an, q.B, bn, x'⟩ ov' u') ∧ CK u u' := by
  obtain ⟨tO, tc, rfl⟩ := Holds.form ht
  obtain ⟨A, AN, B, BN, ls⟩ := q
  dsimp only at hlen han hbn HAN HBN HX ⊢
  go_enter Tryz.func87, Tryz.ntmps87
  go_wp2
  go_loopw [9] (fun iv wr => ∃ (k : Nat) (ov : Value) (x : List Mk), k ≤ t.length ∧ iv = .int .i64 (k : Int) ∧ x.length = ls.length + k ∧ La w ⟨A, AN, B, BN, x⟩ ov wr ∧ CK u wr ∧ Hid (x ++ mks sg (t.drop k) = x')) (fun iv _ => t.length - (intOf iv).toNat)
  case atStart => exact ⟨0, ov, ls, Nat.zero_le _, by go_num, rfl, hL, ck_refl _, HX⟩
  case round =>
    obtain ⟨k, ov, x, hk, rfl, hxl, hL, hck, HI⟩ := hrel
    clear HX
    obtain ⟨oo, oc, hov⟩ := (holds_of hL.own).form
    subst hov
    obtain ⟨b0, b1, b2, b3, b4⟩ := hL.box.cells
    dsimp only at b0 b1 b2 b3 b4
    by_cases hlt : k < t.length
    · obtain ⟨tb, tf, rfl, _, htc⟩ := HS.at (HS.keep ht hL.low (Nat.le_refl _)) (by omega)
      obtain ⟨tx, htx⟩ : ∃ tx, t[k] = tx := ⟨_, rfl⟩
      have c0 := htc k hlt
      rw [htx] at c0
      have HI2 : Hid (x ++ [⟨sg, tx⟩] ++ mks sg (t.drop (k + 1)) = x') := (by
        have h := HI.out
        rw [List.drop_eq_getElem_cons hlt, htx, mks_cons] at h
        show _ = _
        rw [← h]
        simp)
      have i1 : 0 ≤ (k : Int) := by omega
      have i2 : (k : Int) < (t.length : Int) := by omega
      have hL2 := hL.alloc (mkO ⟨sg, tx⟩)
      have hck2 := ck_trans hck (ck_low ((Below.refl _ wr).alloc (Nat.le_refl _) (mkO ⟨sg, tx⟩)))
      have hrow := mk_row wr ⟨sg, tx⟩
      have hbl := hL.box.lt
      have HS2 : Hid ((wr.alloc (mkO ⟨sg, tx⟩)).heap.size = wr.heap.size + 1) := (by show _ = _; simp)
      have hW : wr.alloc (Obj.cells #[Value.int IntKind.u8 sg, Value.string ⟨tx.toArray⟩] 103) = wr.alloc (mkO ⟨sg, tx⟩) := rfl
      have hxk : x.length + 1 ≤ 2199023255552 := by omega
      have HXL : Hid (x.length = ls.length + k) := hxl
      clear HI htx htc hxl
      go_wp2_with (at_builtin; refine wpList_append_w _ (by kernel_rfl) (.tmp 14) (.tmp 18) 57 103 (.agg #[.int .u8 0, .string ⟨#[]⟩]) 2 24 rfl Tryz.underlying57 infoMk rfl (by decide) (by decide) (w.heap.size + 1) _ _ _ rfl hL2.own _ 1 (mkcells [⟨sg, tx⟩]) rfl hrow (mkcells_length _) (mkcells_one _) hxk (by have := HS2.out; omega) ?_)
      intro v3 u3 hown3 hg3 _
      rw [← mkcells_append] at hown3
      obtain ⟨o3, c3, rfl⟩ := (holds_of hown3).form
      obtain ⟨hbx3, hL4, hck4⟩ := hL2.grow (x' := x ++ [⟨sg, tx⟩]) hg3 (by rw [List.length_append]; exact hown3)
      obtain ⟨f0, f1, f2, f3, f4⟩ := hbx3.cells
      have ff := hbx3.frozen 4
      clear hW hg3 hown3
      go_wp2
      exact ⟨⟨k + 1, _, x ++ [⟨sg, tx⟩], by omega, by go_num, by have := HXL.out; simp; omega, hL4, ck_trans hck2 hck4, HI2⟩, by simp [intOf]; omega⟩
    · have HX2 : Hid (x = x') := (by
        have h := HI.out
        rw [List.drop_of_length_le (by omega)] at h
        show x = x'
        simpa [mks] using h)
      have hend : decide ((k : Int) < (t.length : Int)) = false := decide_eq_false (by omega)
      have hf1 := hL.box.frozen 1
      have hf3 := hL.box.frozen 3
      have HP1 := pk_mks (no := 43) (sg := sg) t
      have HP2 := pk_mks (no := 45) (sg := sg) t
      rw [HP1] at HAN
      rw [HP2] at HBN
      clear HI HP1 HP2 hxl
      rcases hsg with rfl | rfl | rfl
      · have hA : Hid (AN + (t.length : Int) = an) := (by have h := HAN.out; rw [if_pos (by decide)] at h; exact h)
        have hB : Hid (BN + (t.length : Int) = bn) := (by have h := HBN.out; rw [if_pos (by decide)] at h; exact h)
        have hL4 := hL.setAN (AN + (t.length : Int))
        have hk4 := hL.ck 1 (.int .i64 (AN + (t.length : Int)))
        have hL5 := hL4.setBN (BN + (t.length : Int))
        have hk5 := hL4.ck 3 (.int .i64 (BN + (t.length : Int)))
        obtain ⟨g0, g1, g2, g3, g4⟩ := hL4.box.cells
        dsimp only at g0 g1 g2 g3 g4
        have hg3 := hL4.box.frozen 3
        clear HAN HBN
        go_wp2
        (try simp only [Exit.inBlock, Exit.then])
        first | refine bodyPost_ret (results_none rfl _ _ _) rfl ?_ | refine bodyPost_end (results_none rfl _ _ _) rfl ?_
        refine ⟨rfl, ⟨.slice oo x.length oc, ?_⟩, ck_trans hck (ck_trans hk4 hk5)⟩
        rw [← hA.out, ← hB.out, ← HX2.out]
        exact hL5
      · have hA : Hid (AN + (t.length : Int) = an) := (by have h := HAN.out; rw [if_pos (by decide)] at h; exact h)
        have hB : Hid (BN = bn) := (by have h := HBN.out; rw [if_neg (by decide)] at h; show _ = _; simpa using h)
        have hL4 := hL.setAN (AN + (t.length : Int))
        have hk4 := hL.ck 1 (.int .i64 (AN + (t.length : Int)))
        clear HAN HBN
        go_wp2
        (try simp only [Exit.inBlock, Exit.then])
        first | refine bodyPost_ret (results_none rfl _ _ _) rfl ?_ | refine bodyPost_end (results_none rfl _ _ _) rfl ?_
        refine ⟨rfl, ⟨.slice oo x.length oc, ?_⟩, ck_trans hck hk4⟩
        rw [← hA.out, ← hB.out, ← HX2.out]
        exact hL4
      · have hA : Hid (AN = an) := (by have h := HAN.out; rw [if_neg (by decide)] at h; show _ = _; simpa using h)
        have hB : Hid (BN + (t.length : Int) = bn) := (by have h := HBN.out; rw [if_pos (by decide)] at h; exact h)
        have hL4 := hL.setBN (BN + (t.length : Int))
        have hk4 := hL.ck 3 (.int .i64 (BN + (t.length : Int)))
        clear HAN HBN
        go_wp2
        (try simp only [Exit.inBlock, Exit.then])
        first | refine bodyPost_ret (results_none rfl _ _ _) rfl ?_ | refine bodyPost_end (results_none rfl _ _ _) rfl ?_
        refine ⟨rfl, ⟨.slice oo x.length oc, ?_⟩, ck_trans hck hk4⟩
        rw [← hA.out, ← hB.out, ← HX2.out]
        exact hL4
end Go.Proofs.YtgiojkhmkeocfaaGreatDoor
