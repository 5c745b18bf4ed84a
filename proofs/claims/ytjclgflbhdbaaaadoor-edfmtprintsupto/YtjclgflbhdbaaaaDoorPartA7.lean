/-
  Texts that belong together, joined: EfCp, EfRf, EfRp.
-/
import Derived.Test.YtjclgflbhdbaaaaDoorPartA6
import Derived.Test.YtjclgflbhdbaaaaDoorPartA3
import Derived.Test.YtjclgflbhdbaaaaDoorPartA4

/- The code's Print of the editor's form, walked. -/
namespace Go.Proofs.YtjclgflbhdbaaaaDoor
open Go.RowKit Go.Shelf
attribute [local go_sem] Oper.semAt_some

theorem isF_blk {T e : TypeId} {B b : Nat} {bs : List Value} {w : World} (h : Lib.IsBuilderF T e B b bs w) : ∃ c fz, w.heap[b]? = some (.cells c T fz) := by
  rcases h with ⟨_, v, h2, _⟩ | ⟨_, v, h2, _⟩
  · exact ⟨_, _, h2⟩
  · exact ⟨_, _, h2⟩
/-- a builder stays where a block that is no cells turns -/
theorem isF_own {T e : TypeId} {B b : Nat} {bs : List Value} {w w' : World} {row : Option Nat} (h : Lib.IsBuilderF T e B b bs w) (hg : w.grownBy w' row) (hr : ∀ r, row = some r → ∃ o : Obj, w.heap[r]? = some o ∧ o.isCells = false) : Lib.IsBuilderF T e B b bs w' := by
  have blk : ∀ (k : Nat) (c : Array Value) (t : TypeId) (fz : Nat × Nat), w.heap[k]? = some (.cells c t fz) → w'.heap[k]? = some (.cells c t fz) := by
    intro k c t fz hk
    refine (hg.block k (Array.getElem?_eq_some_iff.1 hk).1 (fun e => ?_)).trans hk
    obtain ⟨o, ho, hc⟩ := hr k e.symm
    rw [hk] at ho
    cases ho
    cases hc
  have key : ∀ p, Lib.BuilderAtF T e B b p bs w → Lib.BuilderAtF T e B b p bs w' := by
    rintro p ⟨h1, v, h2, h3, h4⟩
    refine ⟨h1, v, blk _ _ _ _ h2, ⟨h3.1, ?_⟩, h4⟩
    rcases h3.2 with q | ⟨g, cap, cur, fz, q1, q2, q3, q4⟩
    · exact .inl q
    · exact .inr ⟨g, cap, cur, fz, q1, q2, blk _ _ _ _ q3, q4⟩
  rcases h with h | h
  · exact .inl (key _ h)
  · exact .inr (key _ h)
theorem ko_others {T e : TypeId} {B b : Nat} {bs : List Value} {w w' : World} (h : Lib.IsBuilderF T e B b bs w) (hk : Lib.OthersKept e (some b) w w') (hb : Below B w w') : KeepsOthers w w' := by
  refine ⟨hb.size, fun k o hk' ho => hk k o hk' (fun q => ?_) (fun c fz q => ?_)⟩
  · cases q
    obtain ⟨c, fz, hq⟩ := isF_blk h
    rw [hk'] at hq
    cases hq
    cases ho
  · subst q
    cases ho
theorem ko_low {w w' : World} (hb : Below w.heap.size w w') : KeepsOthers w w' := ⟨hb.size, fun k _ hk _ => (hb.block k (Array.getElem?_eq_some_iff.1 hk).1).trans hk⟩
/-- the state of Print's loop -/
structure Pj (w : World) (BB : Nat) (vb vi : Value) (acc : List UInt8) (W : World) : Prop where
  bl : Lib.IsBuilderF 43 5 BB BB (Lib.byteCells acc) W
  low : Below w.heap.size w W
  box : Boxed W w.heap.size 23 vb
  siz : BB + 1 < W.heap.size
  gt : w.heap.size < BB
  it : Boxed W (BB + 1) 22 vi
section
variable {w W W' : World} {BB : Nat} {vb vi : Value} {acc : List UInt8}
theorem Pj.step (h : Pj w BB vb vi acc W) (hb : Below W.heap.size W W') : Pj w BB vb vi acc W' :=
  ⟨isF_low h.bl hb, h.low.trans (hb.mono h.low.size), (hb.block _ (by have := h.siz; have := h.gt; omega)).trans h.box, Nat.lt_of_lt_of_le h.siz hb.size, h.gt, (hb.block _ h.siz).trans h.it⟩
theorem Pj.wrote {ac2 : List UInt8} (h : Pj w BB vb vi acc W) (hB : Lib.IsBuilderF 43 5 BB BB (Lib.byteCells ac2) W') (hb : Below BB W W') (hk : Lib.OthersKept 5 (some BB) W W') : Pj w BB vb vi ac2 W' :=
  ⟨hB, h.low.trans (hb.mono (Nat.le_of_lt h.gt)), hk _ _ h.box (fun e => by cases e; have := h.gt; omega) (fun c fz e => by cases e), Nat.lt_of_lt_of_le h.siz hb.size, h.gt, hk _ _ h.it (fun e => by injection e with e; omega) (fun c fz e => by cases e)⟩
theorem Pj.own {row : Option Nat} (h : Pj w BB vb vi acc W) (hg : W.grownBy W' row) (hr : ∀ r, row = some r → w.heap.size ≤ r ∧ ∃ o : Obj, W.heap[r]? = some o ∧ o.isCells = false) : Pj w BB vb vi acc W' := by
  have bx : ∀ (k : Nat) (t : TypeId) (v : Value), Boxed W k t v → Boxed W' k t v := by
    intro k t v hbx
    unfold Boxed at hbx ⊢
    refine (hg.block _ (Array.getElem?_eq_some_iff.1 hbx).1 (fun e => ?_)).trans hbx
    obtain ⟨_, o, ho, hc⟩ := hr _ e.symm
    rw [hbx] at ho
    cases ho
    cases hc
  exact ⟨isF_own h.bl hg (fun r e => (hr r e).2), h.low.grown hg h.low.size (fun j e => (hr j e).1), bx _ _ _ h.box, Nat.lt_of_lt_of_le h.siz hg.size, h.gt, bx _ _ _ h.it⟩
end
/-- what is written up to now -/
def prA (b : List (List UInt8)) (l : List Ch) : List UInt8 := (l.flatMap (edL b)).flatten
theorem edL_code (b : List (List UInt8)) (c : Ch) (hn : numB c = true) (hB : c.B + c.BN ≤ b.length) : (edL b c).flatten = edC c ++ [10] ++ (wrF (cut b c.B c.BN)).flatten := by
  have h := (numB_iff c).1 hn
  unfold edL
  have hl : ((cut b c.B c.BN).length : Int) = c.BN := hcut_length (by omega) (by omega) hB
  by_cases h0 : c.BN = 0
  · rw [if_pos h0]
    have e : cut b c.B c.BN = [] := List.eq_nil_of_length_eq_zero (by omega)
    rw [e]
    simp [wrF]
  · rw [if_neg h0, wr_tx _ (fun e => by rw [e] at hl; simp at hl; omega)]
    simp
theorem wr_len (x : List (List UInt8)) : (wrF x).flatten.length ≤ 14 * x.length + x.flatten.length := by
  induction x with
  | nil => simp [wrF]
  | cons s x ih =>
    have hb : (bareT s).length ≤ s.length := (by
      unfold bareT
      split
      · rw [List.length_dropLast]; omega
      · exact Nat.le_refl _)
    have h1 : (if bareT s = [46] then dotsL ++ (if x.length = 0 then [] else [[97, 10]]) else if x.length = 0 then [bareT s ++ [10], [46, 10]] else [bareT s ++ [10]]).flatten.length ≤ 14 + s.length := (by
      split
      · split <;> (simp [dotsL, shL]; omega)
      · split
        · simp; omega
        · simp; omega)
    rw [wrF, List.flatten_append, List.length_append, List.flatten_cons, List.length_append, List.length_cons]
    omega
theorem efl_take (x : List (List UInt8)) (n : Nat) : (x.take n).flatten.length ≤ x.flatten.length := by
  have h : x.flatten = (x.take n).flatten ++ (x.drop n).flatten := by rw [← List.flatten_append, List.take_append_drop]
  rw [h, List.length_append]
  omega
theorem efl_drop (x : List (List UInt8)) (n : Nat) : (x.drop n).flatten.length ≤ x.flatten.length := by
  have h : x.flatten = (x.take n).flatten ++ (x.drop n).flatten := by rw [← List.flatten_append, List.take_append_drop]
  rw [h, List.length_append]
  omega
theorem ed_len (b : List (List UInt8)) (hb : b.length + b.flatten.length ≤ 1048576) (c : Ch) (hn : numB c = true) (hB : c.B + c.BN ≤ b.length) : (edL b c).flatten.length ≤ 16777216 := by
  have h := (numB_iff c).1 hn
  have h1 := @edC_len c (by omega) (by omega) (by omega) (by omega)
  have h2 := wr_len (cut b c.B c.BN)
  have h3 : (cut b c.B c.BN).length ≤ b.length := (by unfold cut; simp only [List.length_take, List.length_drop]; omega)
  have h4 : (cut b c.B c.BN).flatten.length ≤ b.flatten.length := (by unfold cut; exact Nat.le_trans (efl_take _ _) (efl_drop _ _))
  rw [edL_code b c hn hB]
  simp only [List.length_append, List.length_cons, List.length_nil]
  omega
theorem prA_len (b : List (List UInt8)) (hb : b.length + b.flatten.length ≤ 1048576) (l : List Ch) (h : ∀ c ∈ l, numB c = true ∧ c.B + c.BN ≤ (b.length : Int)) : (prA b l).length ≤ l.length * 16777216 := by
  induction l with
  | nil => simp [prA]
  | cons c l ih =>
    have h1 := ed_len b hb c (h c (by simp)).1 (h c (by simp)).2
    have h2 := ih fun x hx => h x (by simp [hx])
    unfold prA at h2 ⊢
    rw [List.flatMap_cons, List.flatten_append, List.length_append, List.length_cons, Nat.add_mul]
    omega
theorem prA_snoc (b : List (List UInt8)) (l : List Ch) (c : Ch) : prA b (l ++ [c]) = prA b l ++ (edL b c).flatten := by simp [prA]
set_option maxRecDepth 100000 in
set_option maxHeartbeats 8000000 in
theorem ePrint_f (l : List Ch) (vl va vb : Value) (a b : List (List UInt8)) (w : World) (hl : HCh w vl l) (ha : HS w va a) (hb : HS w vb b) (hll : l.length ≤ 1048576) (hla : a.length ≤ 1099511627776) (hlb : b.length + b.flatten.length ≤ 1048576) (HTB : Hid (∀ s ∈ b, s.length ≤ 1099511627776)) (HTb : Hid (Tab10 w))
    (r : Int) (HR : Hid (chk l a.length b.length = r)) (T : List UInt8) (HT : Hid ((if r = 0 then epT l b else []) = T)) (hT : T.length ≤ 70368744177664) :
    Calls Tryd.prog 5 #[vl, va, vb] w fun e w' => e = .returned (.tuple #[.string ⟨T.toArray⟩, .int .i64 r]) ∧ Below w.heap.size w w' := by
  obtain ⟨ao, ca, rfl⟩ := Holds.form hl
  obtain ⟨aa, caa, rfl⟩ := Holds.form ha
  obtain ⟨ab, cab, rfl⟩ := Holds.form hb
  have hBx : Below w.heap.size w (w.alloc (.cells #[.slice ab b.length cab] 23)) := (Below.refl _ w).alloc (Nat.le_refl _) _
  have bB := Boxed.new w 23 (.slice ab b.length cab)
  obtain ⟨wb, hwb⟩ : ∃ wb, w.alloc (.cells #[.slice ab b.length cab] 23) = wb := ⟨_, rfl⟩
  have hszb : wb.heap.size = w.heap.size + 1 := by rw [← hwb]; simp
  rw [hwb] at hBx bB
  have cB := bB.cell
  by_cases hr : r = 0
  · subst hr
    have hTT := HT.out
    rw [if_pos rfl] at hTT
    have hs : Script l a.length b.length := (by
      by_cases h : Script l a.length b.length
      · exact h
      · have := chk_no h
        rw [HR.out] at this
        cases this)
    have HMH : Hid (∀ c ∈ l, numB c = true ∧ c.A + c.AN ≤ (a.length : Int) ∧ c.B + c.BN ≤ (b.length : Int)) := right_mem hs.2.2
    have HTT : Hid (prA b l.reverse ++ (endL b).flatten = T) := (by
      show _ = _
      rw [← hTT]
      unfold epT epL prA
      rw [List.flatten_append])
    clear hs HT hTT
    refine (callsIn_wide (n := 3)).1 ?_
    refine callsIn_of_wp_marks Tryd.func5 rfl trivial ?_ rfl
    simp only [Tryd.ntmps5, List.size_toArray, List.length_cons, List.length_nil, Nat.reduceAdd, Nat.reduceSub, Array.replicate_succ, Array.replicate_zero, List.push_toArray, List.append_toArray, List.nil_append, List.cons_append]
    gi_wp2_with (refine ⟨trivial, ?_⟩; gi_at_call 11; refine (callsIn_wide.2 (Check_f l a.length b.length 0 _ wb (HCh.keep hl hBx (Nat.le_refl _)) (by omega) (by omega) (by omega) HR)).mono ?_; rintro e w1 ⟨rfl, hB1⟩; have hs1 := hB1.size; have bB1 : Boxed w1 w.heap.size 23 (.slice ab b.length cab) := (hB1.block _ (by omega)).trans bB)
    gi_wp2_with (refine ⟨trivial, ?_⟩; gi_at_call 12; refine (callsIn_wide.2 (cBackward_any _ _ _ _)).mono ?_; rintro e w' ⟨rfl, rfl⟩)
    obtain ⟨W0, hW0⟩ : ∃ W0, (w1.alloc (.cells #[.pointer none, .slice none 0 0] 43)).alloc (.cells #[.slice ao l.length ca] 22) = W0 := ⟨_, rfl⟩
    have hsz : W0.heap.size = w1.heap.size + 1 + 1 := by rw [← hW0]; simp
    have hB01 : Below w1.heap.size w1 W0 := by rw [← hW0]; exact ((Below.refl _ w1).alloc (Nat.le_refl _) _).alloc (by simp) _
    have hBw1 : Below w.heap.size w w1 := hBx.trans (hB1.mono hBx.size)
    have hBw : Below w.heap.size w W0 := hBw1.trans (hB01.mono hBw1.size)
    have b3 : W0.heap[w1.heap.size + 1]? = some (.cells #[.slice ao l.length ca] 22 (0, 0)) := (by
      rw [← hW0]
      have := _root_.Go.heap_alloc_new (w1.alloc (.cells #[.pointer none, .slice none 0 0] 43)) (.cells #[.slice ao l.length ca] 22)
      rw [World.size_alloc] at this
      exact this)
    have hP0 : Pj w w1.heap.size (.slice ab b.length cab) (.slice ao l.length ca) [] W0 := (by
      refine ⟨?_, hBw, (hB01.block _ (by omega)).trans bB1, by omega, by omega, b3⟩
      rw [← hW0]
      exact isF_low (isF_fresh w1) ((Below.refl _ _).alloc (Nat.le_refl _) _))
    rw [hW0]
    clear hW0
    have hlw : HCh W0 (.slice ao l.length ca) l := HCh.keep hl hBw (Nat.le_refl _)
    refine wpIn_rangeFunc_ownH rfl (by omega) (gf := 34) (lb := #[.pointer (some ⟨w1.heap.size + 1, 0, none⟩)]) rfl trivial (enters_of Tryd.func34 (by kernel_rfl) rfl)
      (cback_stops 2 (by omega) (w1.heap.size + 1) w.heap.size ao ca l hll W0 (by omega) (by omega) b3 hlw (fun q hq h0 => HCh.lt hl q hq h0)) Kc.trans (Kc.putObj (by omega) (by omega)) (Below.refl _ _) (fun _ => rfl)
      (fun pre W => Pj w w1.heap.size (.slice ab b.length cab) (.slice ao l.length ca) (prA b (pre.map fun x : Mc l => x.1.2)) W)
      (fun _ _ _ => False)
      (fun pre W W' row hI hg hr => hI.own hg (fun q e => ⟨by have := (hr q e).1; omega, (hr q e).2⟩))
      (fun _ _ _ _ _ hs _ _ => hs)
      hP0
      (fun x a' W => ∃ Bx, w1.heap.size < Bx ∧ W.heap[Bx]? = some (Obj.cells #[.int .i64 x.1.2.A, .int .i64 x.1.2.AN, .int .i64 x.1.2.B, .int .i64 x.1.2.BN] 48 (0, 0)) ∧ a' = { tmps := #[.slice ao l.length ca, .slice aa a.length caa, .slice ab b.length cab, undef, undef, .pointer (some ⟨w.heap.size, 0, none⟩), .string ⟨#[]⟩, .int .i64 0, .int .i64 0, .pointer (some ⟨w1.heap.size, 0, none⟩), undef, .pointer (some ⟨Bx, 0, none⟩), .slice ao l.length ca, .slice aa a.length caa, .int .i64 (a.length : Int), .slice ab b.length cab, .int .i64 (b.length : Int), .int .i64 0, .int .i64 0, .bool false, undef, .slice ao l.length ca, .func (.func 34) #[] #[.pointer (some ⟨w1.heap.size + 1, 0, none⟩)], .int .i64 (x.1.1 : Int), chV x.1.2, undef, undef, undef, undef, undef, undef, undef, undef, undef, undef, undef, undef, undef, undef, undef, undef, undef, undef], defers := [] })
      ?hAx ?assign ?body ?done ?stop
    case hAx =>
      rintro x a' _ A B row ⟨Bx, hgt, hx, rfl⟩ hg hr
      refine ⟨Bx, hgt, (hg.block Bx (Array.getElem?_eq_some_iff.1 hx).1 (fun e => ?_)).trans hx, rfl⟩
      obtain ⟨_, o, ho, hc⟩ := hr Bx e.symm
      rw [hx] at ho
      cases ho
      cases hc
    case assign =>
      rintro lp pre x W K hP hK
      have hs := hP.low.size
      have hlt := hP.siz
      simp only [chV]
      gi_wp2
      exact hK _ _ ((KeepsOthers.alloc _ _).from _) (Kc.alloc (by omega) (by omega) _) (hP.step ((Below.refl _ W).alloc (Nat.le_refl _) _)) ⟨W.heap.size, by omega, _root_.Go.heap_alloc_new W _, rfl⟩
    case body =>
      rintro lp pre x a' W hlp ⟨q, hq⟩ hP ⟨Bx, hgt, hx, rfl⟩ hlt
      have hpl := prA_len b hlb (pre.map fun x : Mc l => x.1.2) (fun c hc => by
        obtain ⟨y, _, rfl⟩ := List.mem_map.1 hc
        obtain ⟨hy, hy2⟩ := y.2
        have := HMH.out y.1.2 (hy2 ▸ List.getElem_mem hy)
        exact ⟨this.1, this.2.2⟩)
      rw [List.length_map] at hpl
      obtain ⟨⟨i, c⟩, hi, hci⟩ := x
      dsimp only at hi hci hx
      have hm := HMH.out c (hci ▸ List.getElem_mem hi)
      have hn := (numB_iff c).1 hm.1
      have hsW := hP.siz
      have hgW := hP.gt
      have hbx := (Array.getElem?_eq_some_iff.1 hx).1
      have hel := ed_len b hlb c hm.1 hm.2.2
      have HZ : Hid (prA b ((pre ++ [(⟨(i, c), hi, hci⟩ : Mc l)]).map fun x : Mc l => x.1.2) = prA b (pre.map fun x : Mc l => x.1.2) ++ (edC c ++ [10]) ++ (wrF (cut b c.B c.BN)).flatten) := (by
        show _ = _
        rw [List.map_append, List.map_singleton, prA_snoc, edL_code b c hm.1 hm.2.2]
        simp)
      have hzl : (prA b (pre.map fun x : Mc l => x.1.2)).length + (edC c ++ [10]).length + (wrF (cut b c.B c.BN)).flatten.length ≤ 70368744177664 := (by
        rw [edL_code b c hm.1 hm.2.2, List.length_append] at hel
        have h1 : pre.length * 16777216 ≤ 1048576 * 16777216 := Nat.mul_le_mul_right _ (by omega)
        omega)
      obtain ⟨acc, hacc⟩ : ∃ acc, prA b (pre.map fun x : Mc l => x.1.2) = acc := ⟨_, rfl⟩
      rw [hacc] at hP HZ hzl
      clear hacc hpl hel
      have hbW : HS W (.slice ab b.length cab) b := HS.keep hb hP.low (Nat.le_refl _)
      obtain ⟨vs, hvs, hsB⟩ := run_cut b ab cab c.B c.BN (by omega) (by omega) (by omega) W hbW
      obtain ⟨vo, vc, hvf⟩ := Holds.form (hsB _ hbW)
      rw [hvf] at hvs hsB
      clear hvf
      have hlC : (cut b c.B c.BN).length ≤ 1099511627776 := (by unfold cut; simp only [List.length_take, List.length_drop]; omega)
      have HCB : Hid (∀ s ∈ cut b c.B c.BN, s.length ≤ 1099511627776) := fun s hs => HTB.out s (List.mem_of_mem_drop (List.mem_of_mem_take hs))
      obtain ⟨L, hL⟩ : ∃ L, cut b c.B c.BN = L := ⟨_, rfl⟩
      rw [hL] at hvs hsB hlC HCB HZ hzl
      clear hL
      obtain ⟨X, HX⟩ : ∃ X, Hid ((wrF L).flatten = X) := ⟨_, rfl⟩
      have HZ2 : Hid (prA b ((pre ++ [(⟨(i, c), hi, hci⟩ : Mc l)]).map fun x : Mc l => x.1.2) = acc ++ (edC c ++ [10]) ++ X) := (by show _ = _; rw [HZ.out, HX.out])
      rw [HX.out] at hzl
      clear HZ
      have hcl := @edC_len c (by omega) (by omega) (by omega) (by omega)
      obtain ⟨T1, HT1⟩ : ∃ T1, Hid (edC c = T1) := ⟨_, rfl⟩
      rw [HT1.out] at HZ2 hzl hcl
      have HTW : Hid (Tab10 W) := HTb.out.on hP.low
      have hwr : IntKind.i64.wrap (c.B + c.BN) = c.B + c.BN := wrap_small _ (by omega) (by omega)
      have hA4 : 0 ≤ c.A ∧ c.A ≤ 2147483647 ∧ 0 ≤ c.AN ∧ c.AN ≤ 2147483647 := by omega
      have q1 := add_fits (x := T1) (y := [10]) (by unfold Fits; simp only [List.length_cons, List.length_nil]; omega) Tryd.prog
      have x0 : W.cell? ⟨Bx, 0, none⟩ = some (.int .i64 c.A) := by rw [Lib.cell_of_heap hx]; rfl
      have x1 : W.cell? ⟨Bx, 1, none⟩ = some (.int .i64 c.AN) := by rw [Lib.cell_of_heap hx]; rfl
      have x2 : W.cell? ⟨Bx, 2, none⟩ = some (.int .i64 c.B) := by rw [Lib.cell_of_heap hx]; rfl
      have x3 : W.cell? ⟨Bx, 3, none⟩ = some (.int .i64 c.BN) := by rw [Lib.cell_of_heap hx]; rfl
      have HAL : Hid (acc.length + (T1 ++ [10]).length ≤ 140737488355328) := (by show _ ≤ _; omega)
      have HZl : Hid ((acc ++ (T1 ++ [10]) ++ X).length ≤ 70368744177664) := (by show _ ≤ _; rw [List.length_append, List.length_append]; omega)
      obtain ⟨Z, hZd⟩ : ∃ Z, acc ++ (T1 ++ [10]) ++ X = Z := ⟨_, rfl⟩
      have HZd : Hid (acc ++ (T1 ++ [10]) ++ (wrF L).flatten = Z) := (by show _ = _; rw [HX.out]; exact hZd)
      rw [hZd] at HZ2 HZl
      clear hZd hzl HX
      gi_wp2_with (refine ⟨trivial, ?_⟩; gi_at_call 14; refine (CallsIn.inRound lp (callsIn_wide.2 (cmdOf_f c hA4 W HTW T1 HT1))).mono ?_; rintro e W1 ⟨rfl, hb1⟩)
      have hP1 := hP.step hb1
      have hx1 := (hb1.block Bx hbx).trans hx
      have hz1 : w1.heap.size ≤ W1.heap.size := by have := hP1.siz; omega
      clear x0 x1 x2 x3
      gi_wp2_with (refine ⟨trivial, ?_⟩; gi_at_call 13; refine (CallsIn.inRound lp (callsIn_wide.2 (ews_f w1.heap.size w1.heap.size acc (T1 ++ [10]) W1 hP1.bl hz1 HAL.out))).mono ?_; rintro e W2 ⟨rfl, hB2, hb2, ho2⟩; have hP2 := hP1.wrote hB2 hb2 ho2; have hko2 := ko_others hP1.bl ho2 hb2; have hx2 := ho2 Bx _ hx1 (fun e => by cases e; omega) (fun c fz e => by cases e); have y2 : W2.cell? ⟨Bx, 2, none⟩ = some (.int .i64 c.B) := (by rw [Lib.cell_of_heap hx2]; rfl); have y3 : W2.cell? ⟨Bx, 3, none⟩ = some (.int .i64 c.BN) := (by rw [Lib.cell_of_heap hx2]; rfl); have cb2 := hP2.box.cell)
      have hz2 : w1.heap.size ≤ W2.heap.size := by have := hP2.siz; omega
      have HV : Hid (∀ u, Lib.OthersKept 5 (some w1.heap.size) W2 u → Below w1.heap.size W2 u → HS u (.slice vo L.length vc) L) := fun u _ hu2 => hsB u (HS.keep hb (hP2.low.trans (hu2.mono (by omega))) (Nat.le_refl _))
      gi_wp2_with (refine ⟨trivial, ?_⟩; gi_at_call 15; refine (CallsIn.inRound lp (callsIn_wide.2 (wText_f w1.heap.size w1.heap.size (acc ++ (T1 ++ [10])) L (.slice vo L.length vc) W2 hP2.bl hz2 ⟨_, _, rfl⟩ HV hlC HCB Z HZd HZl.out))).mono ?_; rintro e W3 ⟨rfl, hB3, hb3, ho3⟩)
      have hP3 := hP2.wrote hB3 hb3 ho3
      have hko3 := ko_others hP2.bl ho3 hb3
      have hlW : w.heap.size ≤ W.heap.size := by omega
      refine ⟨((ko_low hb1).trans (hko2.trans hko3)).from _, ⟨(hb1.mono hlW).trans ((hb2.mono (by omega)).trans (hb3.mono (by omega))), ?_⟩, ?_⟩
      · have h1 := hP3.it
        have h2 := hP.it
        unfold Boxed at h1 h2
        rw [h1, h2]
      · have h := hP3
        rw [← HZ2.out] at h
        exact h
    case done =>
      rintro D ys W hD hys hP hK
      have hyl : ys.map (fun x : Mc l => x.1.2) = l.reverse := (by
        have := congrArg (List.map (·.2)) hys
        rw [List.map_map, List.map_reverse, enC_snd] at this
        exact this)
      rw [hyl] at hP
      obtain ⟨acc, hacc⟩ : ∃ acc, prA b l.reverse = acc := ⟨_, rfl⟩
      rw [hacc] at hP HTT
      clear hacc hyl hys
      have cb := hP.box.cell
      have hbW : HS W (.slice ab b.length cab) b := HS.keep hb hP.low (Nat.le_refl _)
      have hlf := lacks_f b _ W hbW (by omega) HTB
      have hz : w1.heap.size ≤ W.heap.size := by have := hP.siz; omega
      have hacl : acc.length ≤ 70368744177664 := (by
        have h1 := congrArg List.length HTT.out
        rw [List.length_append] at h1
        omega)
      cases hlk : lkB b with
      | true =>
        rw [hlk] at hlf
        have HE : Hid (acc ++ markT = T) := (by
          show _ = _
          rw [← HTT.out]
          unfold endL
          rw [if_pos hlk]
          simp)
        gi_wp2_with (refine ⟨trivial, ?_⟩; gi_at_call 16; refine (callsIn_wide.2 hlf).mono ?_; rintro e W' ⟨rfl, rfl⟩)
        gi_wp2_with (refine ⟨trivial, ?_⟩; gi_at_call 13; refine (callsIn_wide.2 (ews_f w1.heap.size w1.heap.size acc markT W hP.bl hz (by simp only [markT, List.length_cons, List.length_nil]; omega))).mono ?_; rintro e W2 ⟨rfl, hB2, hb2, ho2⟩)
        have hP2 := hP.wrote hB2 hb2 ho2
        have hko2 := ko_others hP.bl ho2 hb2
        have hz2 : w1.heap.size ≤ W2.heap.size := by have := hP2.siz; omega
        gi_wp2_with (refine ⟨trivial, ?_⟩; gi_at_call 17; refine (callsIn_wide.2 (Tryd.Builder_String_any_k w1.heap.size w1.heap.size (acc ++ markT) W2 hP2.bl hz2)).mono ?_; rintro e W3 ⟨rfl, hB3, hb3, ho3⟩)
        have hP3 := hP2.wrote hB3 hb3 ho3
        have hK3 := (ko_others hP2.bl ho3 hb3).same D _ (hko2.same D _ hK rfl) rfl
        refine ⟨by simp, .inl ⟨_, _, rfl, run_takeDeferred hK3, ?_⟩⟩
        exact ⟨_, results_tmp2 rfl _ _ _, by rw [← HE.out]; rfl, hP3.low.trans (belowK_b (w := w) (Nat.le_refl _) W3 D _ _ (by omega) hK3 rfl rfl)⟩
      | false =>
        rw [hlk] at hlf
        have HE : Hid (acc = T) := (by
          show _ = _
          rw [← HTT.out]
          unfold endL
          rw [if_neg (by rw [hlk]; decide)]
          simp)
        gi_wp2_with (refine ⟨trivial, ?_⟩; gi_at_call 16; refine (callsIn_wide.2 hlf).mono ?_; rintro e W' ⟨rfl, rfl⟩)
        gi_wp2_with (refine ⟨trivial, ?_⟩; gi_at_call 17; refine (callsIn_wide.2 (Tryd.Builder_String_any_k w1.heap.size w1.heap.size acc W hP.bl hz)).mono ?_; rintro e W3 ⟨rfl, hB3, hb3, ho3⟩)
        have hP3 := hP.wrote hB3 hb3 ho3
        have hK3 := (ko_others hP.bl ho3 hb3).same D _ hK rfl
        refine ⟨by simp, .inl ⟨_, _, rfl, run_takeDeferred hK3, ?_⟩⟩
        exact ⟨_, results_tmp2 rfl _ _ _, by rw [← HE.out]; rfl, hP3.low.trans (belowK_b (w := w) (Nat.le_refl _) W3 D _ _ (by omega) hK3 rfl rfl)⟩
    case stop =>
      rintro D c pre W _ _ h _
      exact h.elim
  · have hrb : (r != 0) = true := bne_iff_ne.2 hr
    have hTT := HT.out
    rw [if_neg hr] at hTT
    subst hTT
    go_enter Tryd.func5, Tryd.ntmps5
    go_wp2_with fail
    refine (Check_f l a.length b.length r _ wb (HCh.keep hl hBx (Nat.le_refl _)) (by omega) (by omega) (by omega) HR).mono ?_
    rintro e w1 ⟨rfl, hB1⟩
    go_wp2
    go_ret2
    exact ⟨rfl, hBx.trans (hB1.mono hBx.size)⟩
end Go.Proofs.YtjclgflbhdbaaaaDoor

/- The reference's Print of the editor's form, walked. -/
namespace Go.Proofs.YtjclgflbhdbaaaaDoor
open Go.RowKit

theorem txF_step (op : Bool) (L : List (List UInt8)) (k : Nat) (h : k < L.length) : txF op (L.drop k) = (if op = true then [] else [[97, 10]]) ++ (if bareT L[k] = [46] then dotsL ++ txF false (L.drop (k + 1)) else (bareT L[k] ++ [10]) :: txF true (L.drop (k + 1))) := by
  rw [List.drop_eq_getElem_cons h, txF]
theorem bareT_le (s : List UInt8) : (bareT s).length ≤ s.length := by
  unfold bareT
  split
  · rw [List.length_dropLast]; omega
  · exact Nat.le_refl _
set_option maxHeartbeats 4000000 in
theorem rtext_f (L : List (List UInt8)) (v : Value) (w : World) (hv : HS w v L) (hL : L.length ≤ 1099511627776) (HB : Hid (∀ s ∈ L, s.length ≤ 1099511627776)) (T : List UInt8) (HZ : Hid ((txF true L).flatten = T)) (hT : T.length ≤ 1152921504606846976) :
    Calls Tryd.prog 20 #[v] w fun e w' => e = .returned (.string ⟨T.toArray⟩) ∧ w = w' := by
  obtain ⟨vo, vc, rfl⟩ := Holds.form hv
  go_enter Tryd.func20, Tryd.ntmps20
  go_wp2
  go_loopw [3, 4, 5] (fun s o i wr => ∃ (k : Nat) (acc : List UInt8) (op : Bool), k ≤ L.length ∧ s = .string ⟨acc.toArray⟩ ∧ o = .bool op ∧ i = .int .i64 (k : Int) ∧ w = wr ∧ Hid (acc ++ (txF op (L.drop k)).flatten = T)) (fun _ _ i _ => L.length - (intOf i).toNat)
  case atStart => exact ⟨0, [], true, Nat.zero_le _, rfl, rfl, rfl, rfl, HZ⟩
  case round =>
    obtain ⟨k, acc, op, hk, rfl, rfl, rfl, rfl, HI⟩ := hrel
    have hacl : acc.length ≤ 1152921504606846976 := (by
      have h1 := congrArg List.length HI.out
      rw [List.length_append] at h1
      omega)
    by_cases hlt : k < L.length
    · obtain ⟨bk, off, rfl, hbk, hcl⟩ := HS.at hv (by omega)
      have c0 := hcl k hlt
      have hsl := HB.out L[k] (List.getElem_mem _)
      have HE : Hid (acc ++ ((if op = true then [] else [[97, 10]]) ++ (if bareT L[k] = [46] then dotsL ++ txF false (L.drop (k + 1)) else (bareT L[k] ++ [10]) :: txF true (L.drop (k + 1)))).flatten = T) := (by
        show _ = _
        rw [← txF_step op L k hlt]
        exact HI.out)
      obtain ⟨s, hs⟩ : ∃ s, L[k] = s := ⟨_, rfl⟩
      rw [hs] at c0 hsl HE
      clear hcl hs HI HZ
      have hbl := bareT_le s
      have i1 : 0 ≤ (k : Int) := by omega
      have i2 : (k : Int) < (L.length : Int) := by omega
      go_wp2_with fail
      refine (rBare_f s _ (by omega)).mono ?_
      rintro e w1 ⟨rfl, rfl⟩
      obtain ⟨t, ht⟩ : ∃ t, bareT s = t := ⟨_, rfl⟩
      rw [ht] at HE hbl ⊢
      clear ht
      cases op with
      | true =>
        by_cases hd : t = [46]
        · subst hd
          have HE2 : Hid (acc ++ [46, 46, 10, 46, 10, 115, 47, 46, 47, 47, 10] ++ (txF false (L.drop (k + 1))).flatten = T) := (by
            show _ = _
            rw [← HE.out]
            simp [dotsL, shL])
          clear HE
          go_wp2
          go_roundw
          case rel => exact ⟨k + 1, _, false, by omega, by simp [ba_join], rfl, by go_num, trivial, HE2⟩
          case measure => simp [intOf]; omega
        · have hdb : (t == [46]) = false := beq_eq_false_iff_ne.2 hd
          have HE2 : Hid (acc ++ t ++ [10] ++ (txF true (L.drop (k + 1))).flatten = T) := (by
            show _ = _
            rw [← HE.out]
            simp [hd])
          clear HE hd
          go_wp2
          go_roundw
          case rel => exact ⟨k + 1, _, true, by omega, by simp [ba_join], rfl, by go_num, trivial, HE2⟩
          case measure => simp [intOf]; omega
      | false =>
        by_cases hd : t = [46]
        · subst hd
          have HE2 : Hid (acc ++ [97, 10] ++ [46, 46, 10, 46, 10, 115, 47, 46, 47, 47, 10] ++ (txF false (L.drop (k + 1))).flatten = T) := (by
            show _ = _
            rw [← HE.out]
            simp [dotsL, shL])
          clear HE
          go_wp2
          go_roundw
          case rel => exact ⟨k + 1, _, false, by omega, by simp [ba_join], rfl, by go_num, trivial, HE2⟩
          case measure => simp [intOf]; omega
        · have hdb : (t == [46]) = false := beq_eq_false_iff_ne.2 hd
          have HE2 : Hid (acc ++ [97, 10] ++ t ++ [10] ++ (txF true (L.drop (k + 1))).flatten = T) := (by
            show _ = _
            rw [← HE.out]
            simp [hd])
          clear HE hd
          go_wp2
          go_roundw
          case rel => exact ⟨k + 1, _, true, by omega, by simp [ba_join], rfl, by go_num, trivial, HE2⟩
          case measure => simp [intOf]; omega
    · have ek : k = L.length := by omega
      subst ek
      rw [List.drop_length] at HI
      cases op with
      | true =>
        have HE : Hid (acc ++ [46, 10] = T) := (by show _ = _; rw [← HI.out]; simp [txF])
        clear HI
        go_wp2
        go_ret
        exact ⟨by rw [← HE.out]; simp [ba_join], rfl⟩
      | false =>
        have HE : Hid (acc = T) := (by show _ = _; rw [← HI.out]; simp [txF])
        clear HI
        go_wp2
        go_ret
        exact ⟨by have h := HE.out; subst h; rfl, rfl⟩
end Go.Proofs.YtjclgflbhdbaaaaDoor

/- The reference's Print of the editor's form, walked: all changes, the last one first. -/
namespace Go.Proofs.YtjclgflbhdbaaaaDoor
open Go.RowKit
attribute [local simp] cs_drew

theorem ep_rev {l : List Ch} {b : List (List UInt8)} {i : Nat} (h : i < l.length) : ((l.take (i + 1)).reverse.flatMap (edL b)).flatten = (edL b l[i]).flatten ++ ((l.take i).reverse.flatMap (edL b)).flatten := by
  rw [List.take_succ_eq_append_getElem h, List.reverse_append]
  simp
theorem rt_stay (L : List (List UInt8)) (v : Value) (u : World) (hv : HS u v L) (hL : L.length ≤ 1099511627776) (HB : Hid (∀ s ∈ L, s.length ≤ 1099511627776)) (T : List UInt8) (HZ : Hid ((txF true L).flatten = T)) (hT : T.length ≤ 1152921504606846976) :
    Calls Tryd.prog 20 #[v] u fun e w' => e = .returned (.string ⟨T.toArray⟩) ∧ Below u.heap.size u w' :=
  (rtext_f L v u hv hL HB T HZ hT).mono fun _ _ h => ⟨h.1, h.2 ▸ Below.refl _ _⟩
set_option maxRecDepth 10000 in
set_option maxHeartbeats 8000000 in
theorem rEPrint_f (l : List Ch) (vl va vb : Value) (a b : List (List UInt8)) (w : World) (hl : HCh w vl l) (ha : HS w va a) (hb : HS w vb b) (hll : l.length ≤ 1099511627776) (hla : a.length ≤ 1099511627776) (hlb : b.length ≤ 1099511627776) (HTB : Hid (∀ s ∈ b, s.length ≤ 1099511627776))
    (r : Int) (HR : Hid (chk l a.length b.length = r)) (T : List UInt8) (HT : Hid ((if r = 0 then epT l b else []) = T)) (hT : T.length ≤ 1152921504606846976) :
    Calls Tryd.prog 6 #[vl, va, vb] w fun e w' => e = .returned (.tuple #[.string ⟨T.toArray⟩, .int .i64 r]) ∧ Below w.heap.size w w' := by
  obtain ⟨lo, lc, rfl⟩ := Holds.form hl
  obtain ⟨ao, ca, rfl⟩ := Holds.form ha
  obtain ⟨bo, cb, rfl⟩ := Holds.form hb
  go_enter Tryd.func6, Tryd.ntmps6
  go_wp2_with fail
  refine (rCheck_f l a.length b.length r (.slice lo l.length lc) _ hl (by omega) (by omega) (by omega) HR).mono ?_
  rintro e w1 ⟨rfl, hb1⟩
  by_cases hr : r = 0
  · subst hr
    have hTT := HT.out
    rw [if_pos rfl] at hTT
    have hs : Script l a.length b.length := (by
      by_cases h : Script l a.length b.length
      · exact h
      · have := chk_no h
        rw [HR.out] at this
        cases this)
    have HMH : Hid (∀ c ∈ l, numB c = true ∧ c.A + c.AN ≤ (a.length : Int) ∧ c.B + c.BN ≤ (b.length : Int)) := right_mem hs.2.2
    have HI0 : Hid ([] ++ ((l.take l.length).reverse.flatMap (edL b)).flatten ++ (endL b).flatten = T) := (by
      show _ = _
      rw [← hTT, List.take_length]
      unfold epT epL
      simp)
    clear hs HT hTT HR
    go_wp2
    go_loopw [9, 10] (fun s iv wr => ∃ (k : Nat) (z : Int) (acc : List UInt8), k ≤ l.length ∧ s = .string ⟨acc.toArray⟩ ∧ iv = .int .i64 z ∧ z + 1 = k ∧ Below w.heap.size w wr ∧ Hid (acc ++ ((l.take k).reverse.flatMap (edL b)).flatten ++ (endL b).flatten = T)) (fun _ iv _ => (intOf iv + 1).toNat)
    case atStart => exact ⟨l.length, (l.length : Int) - 1, [], Nat.le_refl _, rfl, by go_num, by omega, hb1, HI0⟩
    case round =>
      obtain ⟨k, z, acc, hk, rfl, rfl, hz, hbr, HI⟩ := hrel
      have hacl : acc.length ≤ 1152921504606846976 := (by
        have h1 := congrArg List.length HI.out
        simp only [List.length_append] at h1
        omega)
      clear HI0 hb1
      cases k with
      | succ i =>
        obtain rfl : z = (i : Int) := by omega
        have hlt : i < l.length := by omega
        obtain ⟨bk, off, rfl, hbk, hc⟩ := HCh.at (HCh.keep hl hbr (Nat.le_refl _)) (by omega)
        obtain ⟨c0, c1, c2, c3⟩ := hc i hlt
        have HI2 : Hid (acc ++ (edL b l[i]).flatten ++ ((l.take i).reverse.flatMap (edL b)).flatten ++ (endL b).flatten = T) := (by
          show _ = _
          rw [← HI.out, ep_rev hlt]
          simp)
        obtain ⟨c, hcd⟩ : ∃ c, l[i] = c := ⟨_, rfl⟩
        have hm := HMH.out l[i] (List.getElem_mem hlt)
        rw [hcd] at hm c0 c1 c2 c3 HI2
        clear hcd hc HI
        have hn := (numB_iff c).1 hm.1
        have i1 : 0 ≤ (i : Int) := by omega
        have i2 : (i : Int) < (l.length : Int) := by omega
        have hbw : HS wr (.slice bo b.length cb) b := hb.keep hbr (Nat.le_refl _)
        obtain ⟨vs, hvs, hsB⟩ := run_cut b bo cb c.B c.BN (by omega) (by omega) (by omega) wr hbw
        obtain ⟨vo2, vc2, rfl⟩ := Holds.form (hsB wr hbw)
        have hCl : (cut b c.B c.BN).length ≤ 1099511627776 := (by unfold cut; simp only [List.length_take, List.length_drop]; omega)
        have HCB : Hid (∀ s ∈ cut b c.B c.BN, s.length ≤ 1099511627776) := fun s hs => HTB.out s (List.mem_of_mem_drop (List.mem_of_mem_take hs))
        have r1 := rng_short c.A c.AN (by omega) (by omega) (by omega) (by omega)
        have r3 := itoa_short c.A (by omega) (by omega)
        have hbx := Cs.fresh c wr
        have d0 := hbx.c0
        have d1 := hbx.c1
        have d2 := hbx.c2
        have d3 := hbx.c3
        obtain ⟨L, hL⟩ : ∃ L, cut b c.B c.BN = L := ⟨_, rfl⟩
        rw [hL] at hvs hsB hCl HCB
        obtain ⟨X, HX⟩ : ∃ X, Hid ((txF true L).flatten = X) := ⟨_, rfl⟩
        have HTl : Hid (T.length ≤ 1152921504606846976) := hT
        have hwr : IntKind.i64.wrap (c.B + c.BN) = c.B + c.BN := wrap_small _ (by omega) (by omega)
        obtain ⟨A, AN, B, BN⟩ := c
        dsimp only at c0 c1 c2 c3 hbx d0 d1 d2 d3 hn hm hvs hsB r1 r3 hwr hL
        obtain ⟨cc, hcc⟩ : ∃ cc, (⟨A, AN, B, BN⟩ : Ch) = cc := ⟨_, rfl⟩
        have HCC : Hid ((⟨A, AN, B, BN⟩ : Ch) = cc) := hcc
        rw [hcc] at hbx
        clear hcc
        generalize hwb : wr.alloc (.cells #[.int .i64 A, .int .i64 AN, .int .i64 B, .int .i64 BN] 48) = wb at hbx d0 d1 d2 d3
        have hbd := (cs_drew _ _ _ _).2 hbx
        have e0 : wb.drew.cell? ⟨wr.heap.size, 0, none⟩ = some (.int .i64 A) := d0
        by_cases h1 : AN = 0
        · have e1 : (AN == 0) = true := by rw [h1]; rfl
          have HE : Hid (acc ++ Lib.itoa A ++ [97, 10] ++ X ++ ((l.take i).reverse.flatMap (edL b)).flatten ++ (endL b).flatten = T) := (by
            show _ = _
            rw [← HI2.out, ← HX.out]
            unfold edL edC
            dsimp only
            rw [if_pos h1, if_neg (by omega), hL]
            simp)
          have hXl : X.length ≤ 1152921504606846976 := (by
            have h1 := congrArg List.length HE.out
            have := HTl.out
            simp only [List.length_append] at h1
            omega)
          clear HI2 h1
          have q1 := add_fits (x := acc) (y := Lib.itoa A) (by unfold Fits; omega) Tryd.prog
          have q2 := add_fits (x := acc ++ Lib.itoa A) (y := [97, 10]) (by unfold Fits; simp only [List.length_append, List.length_cons, List.length_nil]; omega) Tryd.prog
          have q3 := add_fits (x := acc ++ Lib.itoa A ++ [97, 10]) (y := X) (by unfold Fits; simp only [List.length_append, List.length_cons, List.length_nil]; omega) Tryd.prog
          have q4 := add_fits (x := acc ++ (Lib.itoa A ++ [97, 10])) (y := X) (by unfold Fits; simp only [List.length_append, List.length_cons, List.length_nil]; omega) Tryd.prog
          go_wp2_with fail
          go_region_held3 (fun w' => w'.cell? ⟨wr.heap.size, 0, none⟩ = some (.int .i64 A) ∧ w'.cell? ⟨wr.heap.size, 1, none⟩ = some (.int .i64 AN) ∧ w'.cell? ⟨wr.heap.size, 2, none⟩ = some (.int .i64 B) ∧ w'.cell? ⟨wr.heap.size, 3, none⟩ = some (.int .i64 BN) ∧ Cs cc wr.heap.size wr w') (go_keep)
            (first
              | (go_at_call 19; refine (cs_stay (rText_f A (by omega) (by omega) _) HCC wr.heap.size wr (by first | assumption | (rw [cs_drew]; assumption))).mono ?_; rintro e w' ⟨rfl, g0, g1, g2, g3, hbS⟩)
              | (go_at_call 20; refine (cs_stay (rt_stay L _ _ (hsB _ (HS.keep hbw (Cs.low (by first | assumption | (rw [cs_drew]; assumption))) (Nat.le_refl _))) hCl HCB X HX hXl) HCC wr.heap.size wr (by first | assumption | (rw [cs_drew]; assumption))).mono ?_; rintro e w' ⟨rfl, g0, g1, g2, g3, hbS⟩))
          have HE2 : Hid (acc ++ (Lib.itoa A ++ 97 :: 10 :: X) ++ ((l.take i).reverse.flatMap (edL b)).flatten ++ (endL b).flatten = T) := (by
            show _ = _
            rw [← HE.out]
            simp)
          go_wp2
          go_roundw
          case rel => exact ⟨i, (i : Int) - 1, _, by omega, rfl, by go_num, by omega, hbr.trans (hbS.low.mono hbr.size), HE2⟩
          case measure => simp [intOf]
        · have e1 : (AN == 0) = false := beq_eq_false_iff_ne.2 h1
          by_cases h2 : BN = 0
          · have e2 : (BN == 0) = true := by rw [h2]; rfl
            have HE2 : Hid (acc ++ (rngT A AN ++ [100, 10]) ++ ((l.take i).reverse.flatMap (edL b)).flatten ++ (endL b).flatten = T) := (by
              show _ = _
              rw [← HI2.out]
              unfold edL edC
              dsimp only
              rw [if_neg h1, if_pos h2, if_pos h2]
              simp)
            clear HI2 h1 h2
            have q1 := add_fits (x := acc) (y := rngT A AN) (by unfold Fits; omega) Tryd.prog
            have q2 := add_fits (x := acc ++ rngT A AN) (y := [100, 10]) (by unfold Fits; simp only [List.length_append, List.length_cons, List.length_nil]; omega) Tryd.prog
            go_wp2_with fail
            refine (cs_stay (rRange_f A AN (by omega) (by omega) (by omega) (by omega) _) HCC wr.heap.size wr hbx).mono ?_
            rintro e w' ⟨rfl, g0, g1, g2, g3, hbS⟩
            go_wp2
            go_roundw
            case rel => exact ⟨i, (i : Int) - 1, acc ++ (rngT A AN ++ [100, 10]), by omega, by simp, by go_num, by omega, hbr.trans (hbS.low.mono hbr.size), HE2⟩
            case measure => simp [intOf]
          · have e2 : (BN == 0) = false := beq_eq_false_iff_ne.2 h2
            have HE : Hid (acc ++ (rngT A AN ++ 99 :: 10 :: X) ++ ((l.take i).reverse.flatMap (edL b)).flatten ++ (endL b).flatten = T) := (by
              show _ = _
              rw [← HI2.out, ← HX.out]
              unfold edL edC
              dsimp only
              rw [if_neg h1, if_neg h2, if_neg h2, hL]
              simp)
            have hXl : X.length ≤ 1152921504606846976 := (by
              have h1 := congrArg List.length HE.out
              have := HTl.out
              simp only [List.length_append, List.length_cons] at h1
              omega)
            clear HI2 h1 h2
            have q1 := add_fits (x := acc) (y := rngT A AN) (by unfold Fits; omega) Tryd.prog
            have q2 := add_fits (x := acc ++ rngT A AN) (y := [99, 10]) (by unfold Fits; simp only [List.length_append, List.length_cons, List.length_nil]; omega) Tryd.prog
            have q4 := add_fits (x := acc ++ (rngT A AN ++ [99, 10])) (y := X) (by unfold Fits; simp only [List.length_append, List.length_cons, List.length_nil]; omega) Tryd.prog
            go_wp2_with fail
            go_region_held3 (fun w' => w'.cell? ⟨wr.heap.size, 0, none⟩ = some (.int .i64 A) ∧ w'.cell? ⟨wr.heap.size, 1, none⟩ = some (.int .i64 AN) ∧ w'.cell? ⟨wr.heap.size, 2, none⟩ = some (.int .i64 B) ∧ w'.cell? ⟨wr.heap.size, 3, none⟩ = some (.int .i64 BN) ∧ Cs cc wr.heap.size wr w') (go_keep)
              (first
                | (go_at_call 21; refine (cs_stay (rRange_f A AN (by omega) (by omega) (by omega) (by omega) _) HCC wr.heap.size wr (by first | assumption | (rw [cs_drew]; assumption))).mono ?_; rintro e w' ⟨rfl, g0, g1, g2, g3, hbS⟩)
                | (go_at_call 20; refine (cs_stay (rt_stay L _ _ (hsB _ (HS.keep hbw (Cs.low (by first | assumption | (rw [cs_drew]; assumption))) (Nat.le_refl _))) hCl HCB X HX hXl) HCC wr.heap.size wr (by first | assumption | (rw [cs_drew]; assumption))).mono ?_; rintro e w' ⟨rfl, g0, g1, g2, g3, hbS⟩))
            go_wp2
            go_roundw
            case rel => exact ⟨i, (i : Int) - 1, _, by omega, rfl, by go_num, by omega, hbr.trans (hbS.low.mono hbr.size), HE⟩
            case measure => simp [intOf]
      | zero =>
        obtain rfl : z = -1 := by omega
        have HE : Hid (acc ++ (endL b).flatten = T) := (by
          show _ = _
          rw [← HI.out]
          simp)
        clear HI
        by_cases h0 : 0 < b.length
        · have hbw : HS wr (.slice bo b.length cb) b := hb.keep hbr (Nat.le_refl _)
          obtain ⟨bk, off, rfl, hbk, hcl⟩ := HS.at hbw h0
          have c0 := hcl (b.length - 1) (by omega)
          obtain ⟨s, hs⟩ : ∃ s, b[b.length - 1] = s := ⟨_, rfl⟩
          have hsl := HTB.out b[b.length - 1] (List.getElem_mem _)
          have hlk : lkB b = !fdB s := (by
            unfold lkB
            rw [List.getLast?_eq_getElem?, List.getElem?_eq_getElem (by omega), hs])
          rw [hs] at c0 hsl
          have HLK : Hid (lkB b = !fdB s) := hlk
          clear hcl hs hlk
          have i1 : 0 ≤ (b.length : Int) - 1 := by omega
          have i2 : (b.length : Int) - 1 < (b.length : Int) := by omega
          have i3 : ((b.length : Int) - 1).toNat = b.length - 1 := by omega
          go_wp2_with fail
          refine (rBare_f s _ (by omega)).mono ?_
          rintro e w2 ⟨rfl, rfl⟩
          cases hf : fdB s with
          | true =>
            have HE2 : Hid (acc = T) := (by
              show _ = _
              rw [← HE.out]
              unfold endL
              rw [HLK.out, hf]
              simp)
            go_wp2
            go_ret2
            exact ⟨by have h := HE2.out; subst h; rfl, hbr⟩
          | false =>
            have HE2 : Hid (acc ++ markT = T) := (by
              show _ = _
              rw [← HE.out]
              unfold endL
              rw [HLK.out, hf]
              simp)
            go_wp2
            go_ret2
            exact ⟨by rw [← HE2.out]; simp [ba_join, markT], hbr⟩
        · have hb0 : b = [] := List.eq_nil_of_length_eq_zero (by omega)
          have HE2 : Hid (acc = T) := (by
            show _ = _
            rw [← HE.out, hb0]
            simp [endL, lkB])
          have hd : decide (0 < b.length) = false := decide_eq_false h0
          have hd2 : decide ((0 : Int) < (b.length : Int)) = false := decide_eq_false (by omega)
          clear hb0
          go_wp2
          go_ret2
          exact ⟨by have h := HE2.out; subst h; rfl, hbr⟩
  · have hrb : (r != 0) = true := bne_iff_ne.2 hr
    have hTT := HT.out
    rw [if_neg hr] at hTT
    subst hTT
    go_wp2
    go_ret2
    exact ⟨rfl, hb1⟩
end Go.Proofs.YtjclgflbhdbaaaaDoor
