/-
  What a script makes of a text: the code's Apply, walked.
-/
import Derived.Test.YtdnbfgobpkpedaaEdKeep
import Derived.Test.YtdnbfgobpkpedaaEdReg
namespace Go.Proofs.Ytdnbfgobpkpedaa
open Go.RowKit Go.Shelf
attribute [local go_sem] Oper.semAt_some


theorem cut_at (A : List (List UInt8)) (i n : Int) (j : Nat) (u : Value) (h : (scells (cut A i n))[j]? = some u) : (scells A)[i.toNat + j]? = some u ∧ j < n.toNat := by
  simp only [scells, cut, List.getElem?_map, List.getElem?_take, List.getElem?_drop] at h ⊢
  split at h
  · exact ⟨h, by assumption⟩
  · simp at h
theorem cut_length (A : List (List UInt8)) (i n : Int) (h0 : 0 ≤ i) (h1 : 0 ≤ n) (h2 : i + n ≤ A.length) : (cut A i n).length = n.toNat := by
  simp [cut]; omega
theorem run_cut (A : List (List UInt8)) (ao : Option Addr) (cap : Nat) (i n : Int) (h0 : 0 ≤ i) (h1 : 0 ≤ n) (h2 : i + n ≤ A.length) (w : World) (hA : HS w (.slice ao A.length cap) A) :
    ∃ vs, (∀ u : World, (Instr.slice 34 (.slice ao A.length cap) (some (.int .i64 i)) (some (.int .i64 (i + n))) none).run Try.prog u = .ok vs u) ∧ (∀ u : World, HS u (.slice ao A.length cap) A → HS u vs (cut A i n)) := by
  have hnc : A.length ≤ cap ∧ (ao = none → A = []) := by
    rcases hA with ⟨h, h3, _⟩ | ⟨ad, c, h, h3, _⟩
    · exact ⟨by omega, fun _ => List.eq_nil_of_length_eq_zero h3⟩
    · cases h
      exact ⟨h3, fun h => by cases h⟩
  refine ⟨.slice (if cap = i.toNat then ao else ao.map (·.add i.toNat)) n.toNat (cap - i.toNat), fun u => ?_, fun u hu => ?_⟩
  · rw [run_slice_lh (P := Try.prog) u 34 ao A.length cap (by kernel_rfl) .i64 .i64 i (i + n) h0 (by omega) (by omega)]
    have : (sizeOf (Try.prog.elem 34)).run Try.prog u = .ok 1 u := by kernel_rfl
    rw [this]
    simp only [Result.andThen, sliced, Nat.mul_one]
    congr 2
    omega
  · unfold HS
    rw [cut_length A i n h0 h1 h2]
    cases ao with
    | none =>
      have hA0 := hnc.2 rfl
      subst hA0
      have : i = 0 := by simp at h2; omega
      subst this
      have : n = 0 := by simp at h2; omega
      subst this
      refine .inl ⟨?_, rfl, by simp [cut, scells]⟩
      rcases hA with ⟨h, h3, _⟩ | ⟨ad, c, h, h3, _⟩
      · cases h; simp
      · cases h
    | some ad =>
      refine .inr ⟨if cap = i.toNat then ad else ad.add i.toNat, cap - i.toNat, by split <;> simp, by omega, fun j x hj => ?_⟩
      obtain ⟨h4, h5⟩ := cut_at A i n j x hj
      rcases hu with ⟨h, _⟩ | ⟨ad', c, h, h3, hc⟩
      · cases h
      · cases h
        have := hc _ _ h4
        rw [if_neg (by omega)]
        obtain ⟨b, off, rfl⟩ := addr_of (hc 0 _ (List.getElem?_eq_getElem (by rw [scells_length]; omega)))
        rw [add_none] at this
        rw [add_none, add_none, Nat.add_assoc]
        exact this

theorem pas_length {n m : Int} (A B : List (List UInt8)) (pre : List (Pie n m)) : (pre.flatMap fun x => pa A B x.1).length ≤ pre.length * (A.length + B.length) := by
  induction pre with
  | nil => simp
  | cons x t ih =>
    have h1 : (pa A B x.1).length ≤ A.length + B.length := by simp [pa, cut]; omega
    simp only [List.flatMap_cons, List.length_append, List.length_cons]
    rw [Nat.add_mul]
    omega
theorem Apply_no (l : List Ch) (A B : List (List UInt8)) (v va vb : Value) (w : World) (hl : HCh w v l) (ha : HS w va A) (hb : HS w vb B) (hS : ¬ Script l A.length B.length) (hA : A.length ≤ 1048576) (hBl : B.length ≤ 1048576) (hlen : l.length ≤ 1048576) :
    Calls Try.prog 19 #[v, va, vb] w fun e w' => e = .returned (.tuple #[.slice none 0 0, .int .i64 50]) ∧ Below w.heap.size w w' := by
  obtain ⟨ao, ca, rfl⟩ := Holds.form hl
  obtain ⟨aa, caa, rfl⟩ := Holds.form ha
  obtain ⟨ab, cab, rfl⟩ := Holds.form hb
  have hB0 : Below w.heap.size w ((w.alloc (Obj.cells #[Value.slice aa A.length caa] 34)).alloc (Obj.cells #[Value.slice ab B.length cab] 34)) := ((Below.refl _ w).alloc (Nat.le_refl _) _).alloc (by simp) _
  go_enter Try.func19, Try.ntmps19
  go_wp2_with fail
  refine (Check_f l A.length B.length 50 _ _ (HCh.keep hl hB0 (Nat.le_refl _)) (by omega) (by omega) (by omega) (chk_no hS)).mono ?_
  rintro e w1 ⟨rfl, hB⟩
  go_wp2
  go_ret2
  exact ⟨rfl, hB0.trans (hB.mono hB0.size)⟩

set_option maxRecDepth 100000 in
set_option maxHeartbeats 2000000 in
theorem Apply_ok (l : List Ch) (A B : List (List UInt8)) (v va vb : Value) (w : World) (hl : HCh w v l) (ha : HS w va A) (hb : HS w vb B) (hS : Script l A.length B.length) (hA : A.length ≤ 1048576) (hBl : B.length ≤ 1048576) (hlen : l.length ≤ 1048576) :
    Calls Try.prog 19 #[v, va, vb] w fun e w' => ∃ v', e = .returned (.tuple #[v', .int .i64 0]) ∧ w'.ownsRow w.heap.size 9 1 v' (applyL l A B).length (scells (applyL l A B)) ∧ Below w.heap.size w w' := by
  obtain ⟨ao, ca, rfl⟩ := Holds.form hl
  obtain ⟨aa, caa, rfl⟩ := Holds.form ha
  obtain ⟨ab, cab, rfl⟩ := Holds.form hb
  have HS' : Hid (Script l A.length B.length) := hS
  clear hS
  have hmk := run_make0 Try.underlying34 infoStr (by decide) B.length (by omega)
  have hB0 : Below w.heap.size w ((w.alloc (Obj.cells #[Value.slice aa A.length caa] 34)).alloc (Obj.cells #[Value.slice ab B.length cab] 34)) := ((Below.refl _ w).alloc (Nat.le_refl _) _).alloc (by simp) _
  have bA := (Boxed.new w 34 (Value.slice aa A.length caa)).alloc (Obj.cells #[Value.slice ab B.length cab] 34)
  have bB := Boxed.new (w.alloc (Obj.cells #[Value.slice aa A.length caa] 34)) 34 (Value.slice ab B.length cab)
  rw [World.size_alloc] at bB
  obtain ⟨wb, hwb⟩ : ∃ wb, (w.alloc (Obj.cells #[Value.slice aa A.length caa] 34)).alloc (Obj.cells #[Value.slice ab B.length cab] 34) = wb := ⟨_, rfl⟩
  have hszb : wb.heap.size = w.heap.size + 1 + 1 := by rw [← hwb]; simp
  rw [hwb] at hB0 bA bB
  refine (callsIn_wide (n := 3)).1 ?_
  refine callsIn_of_wp_marks Try.func19 rfl trivial ?_ rfl
  simp only [Try.ntmps19, List.size_toArray, List.length_cons, List.length_nil, Nat.reduceAdd, Nat.reduceSub, Array.replicate_succ, Array.replicate_zero, List.push_toArray, List.append_toArray, List.nil_append, List.cons_append]
  have cA := bA.cell
  have cB := bB.cell
  gi_wp2_with (refine ⟨trivial, ?_⟩; gi_at_call 9; refine (callsIn_wide.2 (Check_f l A.length B.length 0 _ wb (HCh.keep hl hB0 (Nat.le_refl _)) (by omega) (by omega) (by omega) (chk_ok HS'.out))).mono ?_; rintro e w1 ⟨rfl, hB1⟩; have hs1 := hB1.size; have bA1 : Boxed w1 w.heap.size 34 (Value.slice aa A.length caa) := (hB1.block _ (by omega)).trans bA; have bB1 : Boxed w1 (w.heap.size + 1) 34 (Value.slice ab B.length cab) := (hB1.block _ (by omega)).trans bB; have cA1 := bA1.cell; have cB1 := bB1.cell; have cA2 := ((bA1.alloc (Obj.cells (madeCells #[Value.string { data := #[] }] B.length) 9)).alloc (Obj.cells #[Value.slice (some { block := w1.heap.size, off := 0 }) 0 B.length] 34)).cell; have cB2 := ((bB1.alloc (Obj.cells (madeCells #[Value.string { data := #[] }] B.length) 9)).alloc (Obj.cells #[Value.slice (some { block := w1.heap.size, off := 0 }) 0 B.length] 34)).cell; clear cA cB)
  gi_wp2_with (refine ⟨trivial, ?_⟩; gi_at_call 30; refine (callsIn_wide.2 (pieces_any _ _ _ _ _ _)).mono ?_; rintro e w' ⟨rfl, rfl⟩)
  clear cA1 cB1 cA2 cB2
  obtain ⟨W0, hW0⟩ : ∃ W0, (((((w1.alloc (Obj.cells (madeCells #[Value.string { data := #[] }] B.length) 9)).alloc (Obj.cells #[Value.slice (some { block := w1.heap.size, off := 0 }) 0 B.length] 34)).alloc (Obj.cells #[Value.slice ao l.length ca] 22)).alloc (Obj.cells #[Value.int IntKind.i64 A.length] 3)).alloc (Obj.cells #[Value.int IntKind.i64 B.length] 3)) = W0 := ⟨_, rfl⟩
  obtain ⟨hsz, b0, b1, b2, hB2⟩ := boxes3 _ _ _ _ W0 hW0
  have hsu : ((w1.alloc (Obj.cells (madeCells #[Value.string { data := #[] }] B.length) 9)).alloc (Obj.cells #[Value.slice (some { block := w1.heap.size, off := 0 }) 0 B.length] 34)).heap.size = w1.heap.size + 1 + 1 := by simp
  have hrow := row_made (E := 9) (z := .string ⟨#[]⟩) B.length (by omega) w1 (Nat.le_refl w1.heap.size)
  have bK := Boxed.new (w1.alloc (Obj.cells (madeCells #[Value.string { data := #[] }] B.length) 9)) 34 (Value.slice (some { block := w1.heap.size, off := 0 }) 0 B.length)
  rw [World.size_alloc] at bK
  rw [hsu] at hsz b0 b1 b2 hB2
  have hBk : ∀ k, k < w1.heap.size + 1 + 1 → W0.heap[k]? = ((w1.alloc (Obj.cells (madeCells #[Value.string { data := #[] }] B.length) 9)).alloc (Obj.cells #[Value.slice (some { block := w1.heap.size, off := 0 }) 0 B.length] 34)).heap[k]? := hB2.block
  have bK0 : Boxed W0 (w1.heap.size + 1) 34 (Value.slice (some { block := w1.heap.size, off := 0 }) 0 B.length) := (hBk _ (by omega)).trans bK
  have hrow0 : W0.ownsRow w1.heap.size 9 1 (Value.slice (some { block := w1.heap.size, off := 0 }) 0 B.length) 0 [] := by
    have hr1 := hrow.alloc (Obj.cells #[Value.slice (some { block := w1.heap.size, off := 0 }) 0 B.length] 34)
    rw [← hW0]
    exact ((hr1.alloc _).alloc _).alloc _
  have hB00 : Below w1.heap.size w1 W0 := (((Below.refl _ w1).alloc (Nat.le_refl _) _).alloc (by simp) _).trans (hB2.mono (by omega))
  have hBw : Below w.heap.size w w1 := hB0.trans (hB1.mono hB0.size)
  clear hrow bK hBk hB2 hsu
  rw [hW0]
  have haW : HS W0 (.slice aa A.length caa) A := HS.keep (HS.keep ha hBw (Nat.le_refl _)) hB00 (Nat.le_refl _)
  have hbW : HS W0 (.slice ab B.length cab) B := HS.keep (HS.keep hb hBw (Nat.le_refl _)) hB00 (Nat.le_refl _)
  refine wpIn_rangeFunc_ownH rfl (by omega) (gf := 36) (lb := #[.pointer (some ⟨w1.heap.size + 1 + 1, 0, none⟩), .pointer (some ⟨w1.heap.size + 1 + 1 + 1, 0, none⟩), .pointer (some ⟨w1.heap.size + 1 + 1 + 1 + 1, 0, none⟩)]) rfl trivial (enters_of Try.func36 (by kernel_rfl) rfl)
    (pieces_stops 2 (by omega) (w1.heap.size + 1 + 1) w1.heap.size ao ca l A.length B.length HS'.out (by omega) (by omega) (by omega) W0 (by omega) (by omega) b0 b1 b2 (HCh.keep (HCh.keep hl hBw (Nat.le_refl _)) hB00 (Nat.le_refl _)) (fun a ha h0 => HCh.lt (HCh.keep hl hBw (Nat.le_refl _)) a ha h0)) Kp.trans (Kp.putObj (by omega) (by omega)) (Below.refl _ _) (fun _ => rfl)
    (fun pre W => (∃ v, OwnR w1.heap.size (w1.heap.size + 1 + 1) (w1.heap.size + 1) 34 9 1 v (pre.flatMap fun x => pa A B x.1).length (scells (pre.flatMap fun x => pa A B x.1)) W) ∧ Below w1.heap.size W0 W)
    (fun _ _ _ => False)
    (ownR_own (by omega) (by omega) _ _)
    (fun _ _ _ _ _ hs _ _ => hs)
    ⟨⟨_, bK0, hrow0, fun g hg => by simp [Value.ownBlock] at hg; omega⟩, Below.refl _ _⟩
    (fun x a' W => ∃ Bx Bc, W.heap[Bx]? = some (Obj.cells #[.int .i64 x.1.1.a, .int .i64 x.1.1.b, .int .i64 x.1.1.n] 56 (0, 0)) ∧ W.heap[Bc]? = some (Obj.cells #[.int .i64 x.1.2.A, .int .i64 x.1.2.AN, .int .i64 x.1.2.B, .int .i64 x.1.2.BN] 50 (0, 0)) ∧ a' = { tmps := #[.slice ao l.length ca, .slice aa A.length caa, .slice ab B.length cab, undef, .pointer (some ⟨w.heap.size, 0, none⟩), .pointer (some ⟨w.heap.size + 1, 0, none⟩), .slice none 0 0, .int .i64 0, .int .i64 0, .pointer (some ⟨w1.heap.size + 1, 0, none⟩), .pointer (some ⟨Bx, 0, none⟩), .pointer (some ⟨Bc, 0, none⟩), .slice ao l.length ca, .slice aa A.length caa, .int .i64 A.length, .slice ab B.length cab, .int .i64 B.length, .int .i64 0, .int .i64 0, .bool false, undef, .slice ab B.length cab, .int .i64 B.length, .slice (some ⟨w1.heap.size, 0, none⟩) 0 B.length, .slice ao l.length ca, .slice aa A.length caa, .int .i64 A.length, .slice ab B.length cab, .int .i64 B.length, .func (.func 36) #[] #[.pointer (some ⟨w1.heap.size + 1 + 1, 0, none⟩), .pointer (some ⟨w1.heap.size + 1 + 1 + 1, 0, none⟩), .pointer (some ⟨w1.heap.size + 1 + 1 + 1 + 1, 0, none⟩)], rnV x.1.1, chV x.1.2, undef, undef, undef, undef, undef, undef, undef, undef, undef, undef, undef, undef, undef, undef, undef, undef, undef, undef, undef, undef, undef, undef, undef], defers := [] })
    ?hAx ?assign ?body ?done ?stop
  case hAx =>
    rintro x a' _ A B row ⟨Bx, Bc, hx, hxc, rfl⟩ hg hr
    refine ⟨Bx, Bc, (hg.block Bx (Array.getElem?_eq_some_iff.1 hx).1 (fun e => ?_)).trans hx, (hg.block Bc (Array.getElem?_eq_some_iff.1 hxc).1 (fun e => ?_)).trans hxc, rfl⟩
    · obtain ⟨_, o, ho, hc⟩ := hr Bx e.symm
      rw [hx] at ho
      cases ho
      cases hc
    · obtain ⟨_, o, ho, hc⟩ := hr Bc e.symm
      rw [hxc] at ho
      cases ho
      cases hc
  case assign =>
    rintro lp pre x W K ⟨⟨v, hO⟩, hB⟩ hK
    have hs := hB.size
    simp only [rnV, chV]
    gi_wp2
    refine hK _ _ (((KeepsOthers.alloc _ _).trans (KeepsOthers.alloc _ _)).from _) ((Kp.alloc (by omega) (by omega) _).trans (Kp.alloc (by simp; omega) (by simp; omega) _)) ⟨⟨v, (hO.alloc _).alloc _⟩, (hB.alloc (by omega) _).alloc (by simp; omega) _⟩ ⟨W.heap.size, W.heap.size + 1, (Below.heap_alloc _ _ _ (by simp)).trans (_root_.Go.heap_alloc_new W _), ?_, rfl⟩
    have := _root_.Go.heap_alloc_new (W.alloc (Obj.cells #[.int .i64 x.1.1.a, .int .i64 x.1.1.b, .int .i64 x.1.1.n] 56)) (Obj.cells #[.int .i64 x.1.2.A, .int .i64 x.1.2.AN, .int .i64 x.1.2.B, .int .i64 x.1.2.BN] 50)
    rw [World.size_alloc] at this
    exact this
  case body =>
    rintro lp pre x a' W hlp ⟨r, hr⟩ ⟨⟨v, hO⟩, hB⟩ ⟨Bx, Bc, hx, hxc, rfl⟩ hlt
    have hs := hB.size
    have hsw := hBw.size
    obtain ⟨q1, q2, q3, q4, q5, q6, q7, q8, q9, q10⟩ := x.2
    have hbnd := Nat.le_trans (pas_length A B pre) (Nat.mul_le_mul (show pre.length ≤ 1048576 by omega) (show A.length + B.length ≤ 2097152 by omega))
    obtain ⟨X, hX⟩ : ∃ X, (pre.flatMap fun x => pa A B x.1) = X := ⟨_, rfl⟩
    have HZ : Hid ((pre ++ [x]).flatMap (fun x => pa A B x.1) = X ++ cut A x.1.1.a x.1.1.n ++ cut B x.1.2.B x.1.2.BN) := (by show _ = _; rw [← hX]; simp [pa])
    rw [hX] at hO hbnd
    clear hX
    obtain ⟨to, tc, rfl⟩ := Holds.form (holds_of hO.row)
    have hc := hO.box.cell
    have x0 : W.cell? ⟨Bx, 0, none⟩ = some (.int .i64 x.1.1.a) := by rw [Lib.cell_of_heap hx]; rfl
    have x2 : W.cell? ⟨Bx, 2, none⟩ = some (.int .i64 x.1.1.n) := by rw [Lib.cell_of_heap hx]; rfl
    have hBWw : Below w.heap.size w W := hBw.trans ((hB00.trans hB).mono hBw.size)
    have bA2 : Boxed W w.heap.size 34 (Value.slice aa A.length caa) := (hB.block _ (by omega)).trans ((hB00.block _ (by omega)).trans bA1)
    have bB2 : Boxed W (w.heap.size + 1) 34 (Value.slice ab B.length cab) := (hB.block _ (by omega)).trans ((hB00.block _ (by omega)).trans bB1)
    have cA2 := bA2.cell
    obtain ⟨vs, hvs, hsA⟩ := run_cut A aa caa x.1.1.a x.1.1.n q1 q3 q4 W0 haW
    obtain ⟨vo, vc, hvf⟩ := Holds.form (hsA _ haW)
    rw [hvf] at hvs hsA
    clear hvf
    obtain ⟨vsb, hvsb, hsB⟩ := run_cut B ab cab x.1.2.B x.1.2.BN q6 q7 q8 W0 hbW
    obtain ⟨vob, vcb, hvfb⟩ := Holds.form (hsB _ hbW)
    rw [hvfb] at hvsb hsB
    clear hvfb
    have hlA : (cut A x.1.1.a x.1.1.n).length ≤ 1048576 := by simp [cut]; omega
    have hlB : (cut B x.1.2.B x.1.2.BN).length ≤ 1048576 := by simp [cut]; omega
    have hj1 : x.1.1.a + x.1.1.n ≤ 9223372036854775807 := by omega
    have hj2 : x.1.2.B + x.1.2.BN ≤ 9223372036854775807 := by omega
    have hOd : OwnR w1.heap.size (w1.heap.size + 1 + 1) (w1.heap.size + 1) 34 9 1 (.slice to X.length tc) X.length (scells X) W.drew := ⟨hO.box, hO.row, hO.far⟩
    gi_wp2
    refine wpIn_region_any (by kernel_rfl) ?_
    refine any10 (w := W.drew) (fun b => { tmps := #[.slice ao l.length ca, .slice aa A.length caa, .slice ab B.length cab, undef, .pointer (some ⟨w.heap.size, 0, none⟩), .pointer (some ⟨w.heap.size + 1, 0, none⟩), .slice none 0 0, .int .i64 0, .int .i64 0, .pointer (some ⟨w1.heap.size + 1, 0, none⟩), .pointer (some ⟨Bx, 0, none⟩), .pointer (some ⟨Bc, 0, none⟩), .slice ao l.length ca, .slice aa A.length caa, .int .i64 A.length, .slice ab B.length cab, .int .i64 B.length, .int .i64 0, .int .i64 0, .bool false, undef, .slice ab B.length cab, .int .i64 B.length, .slice (some ⟨w1.heap.size, 0, none⟩) 0 B.length, .slice ao l.length ca, .slice aa A.length caa, .int .i64 A.length, .slice ab B.length cab, .int .i64 B.length, .func (.func 36) #[] #[.pointer (some ⟨w1.heap.size + 1 + 1, 0, none⟩), .pointer (some ⟨w1.heap.size + 1 + 1 + 1, 0, none⟩), .pointer (some ⟨w1.heap.size + 1 + 1 + 1 + 1, 0, none⟩)], rnV x.1.1, chV x.1.2, pick (b 0) (.slice to X.length tc), pick (b 1) (.slice aa A.length caa), pick (b 2) (.pointer (some ⟨Bx, 0, none⟩)), pick (b 3) (.int .i64 x.1.1.a), pick (b 4) (.pointer (some ⟨Bx, 0, none⟩)), pick (b 5) (.int .i64 x.1.1.a), pick (b 6) (.pointer (some ⟨Bx, 2, none⟩)), pick (b 7) (.int .i64 x.1.1.n), pick (b 8) (.int .i64 (x.1.1.a + x.1.1.n)), pick (b 9) (.slice vo (cut A x.1.1.a x.1.1.n).length vc), undef, undef, undef, undef, undef, undef, undef, undef, undef, undef, undef, undef, undef], defers := [] }) (chk_all (of_decide_eq_true (by kernel_rfl))) ?hstep8 ?hfin8
    case hstep8 =>
      rintro b ⟨i, hi⟩ hd K hK
      rcases (by omega : i = 0 ∨ i = 1 ∨ i = 2 ∨ i = 3 ∨ i = 4 ∨ i = 5 ∨ i = 6 ∨ i = 7 ∨ i = 8 ∨ i = 9) with rfl | rfl | rfl | rfl | rfl | rfl | rfl | rfl | rfl | rfl
      · refine wpOpIn_yield (v := .slice to X.length tc) rfl rfl (fun _ h => by cases h) rfl ?_ hK
        go_simp
      · refine wpOpIn_yield (v := .slice aa A.length caa) rfl rfl (fun _ h => by cases h) rfl ?_ hK
        go_simp
      · refine wpOpIn_yield (v := .pointer (some ⟨Bx, 0, none⟩)) rfl rfl (fun _ h => by cases h) rfl ?_ hK
        go_simp
      · have e2 := pick_true (hd 2 (by simp [deps])) (.pointer (some ⟨Bx, 0, none⟩))
        refine wpOpIn_yield (v := .int .i64 x.1.1.a) rfl rfl (fun _ h => by cases h) rfl ?_ hK
        go_simp
      · refine wpOpIn_yield (v := .pointer (some ⟨Bx, 0, none⟩)) rfl rfl (fun _ h => by cases h) rfl ?_ hK
        go_simp
      · have e4 := pick_true (hd 4 (by simp [deps])) (.pointer (some ⟨Bx, 0, none⟩))
        refine wpOpIn_yield (v := .int .i64 x.1.1.a) rfl rfl (fun _ h => by cases h) rfl ?_ hK
        go_simp
      · refine wpOpIn_yield (v := .pointer (some ⟨Bx, 2, none⟩)) rfl rfl (fun _ h => by cases h) rfl ?_ hK
        go_simp
      · have e6 := pick_true (hd 6 (by simp [deps])) (.pointer (some ⟨Bx, 2, none⟩))
        refine wpOpIn_yield (v := .int .i64 x.1.1.n) rfl rfl (fun _ h => by cases h) rfl ?_ hK
        go_simp
      · have e5 := pick_true (hd 5 (by simp [deps])) (.int .i64 x.1.1.a)
        have e7 := pick_true (hd 7 (by simp [deps])) (.int .i64 x.1.1.n)
        refine wpOpIn_yield (v := .int .i64 (x.1.1.a + x.1.1.n)) rfl rfl (fun _ h => by cases h) rfl ?_ hK
        go_simp
        exact wrap_small _ (by omega) (by omega)
      · have e1 := pick_true (hd 1 (by simp [deps])) (.slice aa A.length caa)
        have e3 := pick_true (hd 3 (by simp [deps])) (.int .i64 x.1.1.a)
        have e8 := pick_true (hd 8 (by simp [deps])) (.int .i64 (x.1.1.a + x.1.1.n))
        refine wpOpIn_yield (v := .slice vo (cut A x.1.1.a x.1.1.n).length vc) rfl rfl (fun _ h => by cases h) rfl ?_ hK
        go_simp
    case hfin8 =>
      refine wpOpIn_append_h W.drew rfl rfl (.tmp 32) (.tmp 41) 34 9 rfl (.string ⟨#[]⟩) 1 16 Try.underlying34 infoStr rfl (by decide) (by decide) w1.heap.size (.slice to X.length tc) _ _ rfl hOd.row (.slice vo (cut A x.1.1.a x.1.1.n).length vc) (cut A x.1.1.a x.1.1.n).length (scells (cut A x.1.1.a x.1.1.n)) rfl (hsA _ (HS.keep (HS.keep ha hBWw (Nat.le_refl _)) (Below.dN (Below.refl W.heap.size W) 1) (Nat.le_refl _))) (by rw [scells_length, Nat.mul_one]) (scells_one _) (by omega) (by show _ ≤ W.heap.size; omega) ?_
      intro v' u1 hown' hgrow hp
      obtain ⟨hv1, hO3, hk2, hp2, hal⟩ := hOd.appended (by decide) (by decide) (by decide) (by omega) (by omega) (by show _ ≤ W.heap.size; omega) hown' hgrow hp
      rw [← scells_append] at hO3
      have hvf := (holds_of hown').form
      obtain ⟨to2, tc2, rfl⟩ := hvf
      have hc1 := hv1.cell
      have hf1 := hv1.frozen
      refine wpAnyIn_ready (rs := [11]) (by kernel_rfl) (by simp) (AllReadyIn.cons rfl (fun K hK => ?_) AllReadyIn.nil)
      go_simp
      refine hK _ _ ⟨by kernel_rfl, ?_⟩
      obtain ⟨W2, hW2⟩ : ∃ W2, u1.setCell ⟨w1.heap.size + 1, 0, none⟩ (.slice to2 (X.length + (cut A x.1.1.a x.1.1.n).length) tc2) = W2 := ⟨_, rfl⟩
      rw [hW2] at hO3 hk2 hp2 hal ⊢
      clear hW2 hv1 hc1 hf1 hgrow hp hown'
      have hkp2 : Kp w1.heap.size (w1.heap.size + 1 + 1) W W2 := (Kp.drewN W 1).trans hp2
      have hko2 : KeepsOthers W W2 := (KeepsOthers.drew W).trans hk2
      have hs2 := hkp2.low.size
      have hln : (X ++ cut A x.1.1.a x.1.1.n).length = X.length + (cut A x.1.1.a x.1.1.n).length := by simp
      have hxc2 : W2.heap[Bc]? = _ := hkp2.chg _ _ hxc
      have y2 : W2.cell? ⟨Bc, 2, none⟩ = some (.int .i64 x.1.2.B) := by rw [Lib.cell_of_heap hxc2]; rfl
      have y3 : W2.cell? ⟨Bc, 3, none⟩ = some (.int .i64 x.1.2.BN) := by rw [Lib.cell_of_heap hxc2]; rfl
      have bB3 : Boxed W2 (w.heap.size + 1) 34 (Value.slice ab B.length cab) := (hkp2.low.block _ (by omega)).trans bB2
      have cB3 := bB3.cell
      have hcT := hO3.box.cell
      have hBWw2 : Below w.heap.size w W2 := hBWw.trans (hkp2.low.mono (by omega))
      have hOd2 : OwnR w1.heap.size (w1.heap.size + 1 + 1) (w1.heap.size + 1) 34 9 1 (.slice to2 (X.length + (cut A x.1.1.a x.1.1.n).length) tc2) (X.length + (cut A x.1.1.a x.1.1.n).length) (scells (X ++ cut A x.1.1.a x.1.1.n)) W2.drew := ⟨hO3.box, hO3.row, hO3.far⟩
      clear hc x0 x2 cA2 hal
      gi_wp2
      refine wpIn_region_any (by kernel_rfl) ?_
      refine any10 (w := W2.drew) (fun b => { tmps := #[.slice ao l.length ca, .slice aa A.length caa, .slice ab B.length cab, undef, .pointer (some ⟨w.heap.size, 0, none⟩), .pointer (some ⟨w.heap.size + 1, 0, none⟩), .slice none 0 0, .int .i64 0, .int .i64 0, .pointer (some ⟨w1.heap.size + 1, 0, none⟩), .pointer (some ⟨Bx, 0, none⟩), .pointer (some ⟨Bc, 0, none⟩), .slice ao l.length ca, .slice aa A.length caa, .int .i64 A.length, .slice ab B.length cab, .int .i64 B.length, .int .i64 0, .int .i64 0, .bool false, undef, .slice ab B.length cab, .int .i64 B.length, .slice (some ⟨w1.heap.size, 0, none⟩) 0 B.length, .slice ao l.length ca, .slice aa A.length caa, .int .i64 A.length, .slice ab B.length cab, .int .i64 B.length, .func (.func 36) #[] #[.pointer (some ⟨w1.heap.size + 1 + 1, 0, none⟩), .pointer (some ⟨w1.heap.size + 1 + 1 + 1, 0, none⟩), .pointer (some ⟨w1.heap.size + 1 + 1 + 1 + 1, 0, none⟩)], rnV x.1.1, chV x.1.2, (.slice to X.length tc), (.slice aa A.length caa), (.pointer (some ⟨Bx, 0, none⟩)), (.int .i64 x.1.1.a), (.pointer (some ⟨Bx, 0, none⟩)), (.int .i64 x.1.1.a), (.pointer (some ⟨Bx, 2, none⟩)), (.int .i64 x.1.1.n), (.int .i64 (x.1.1.a + x.1.1.n)), (.slice vo (cut A x.1.1.a x.1.1.n).length vc), .slice to2 (X.length + (cut A x.1.1.a x.1.1.n).length) tc2, pick (b 0) (.slice to2 (X.length + (cut A x.1.1.a x.1.1.n).length) tc2), pick (b 1) (.slice ab B.length cab), pick (b 2) (.pointer (some ⟨Bc, 2, none⟩)), pick (b 3) (.int .i64 x.1.2.B), pick (b 4) (.pointer (some ⟨Bc, 2, none⟩)), pick (b 5) (.int .i64 x.1.2.B), pick (b 6) (.pointer (some ⟨Bc, 3, none⟩)), pick (b 7) (.int .i64 x.1.2.BN), pick (b 8) (.int .i64 (x.1.2.B + x.1.2.BN)), pick (b 9) (.slice vob (cut B x.1.2.B x.1.2.BN).length vcb), undef, undef], defers := [] }) (chk_all (of_decide_eq_true (by kernel_rfl))) ?hstep9 ?hfin9
      case hstep9 =>
        rintro b ⟨i, hi⟩ hd K hK
        rcases (by omega : i = 0 ∨ i = 1 ∨ i = 2 ∨ i = 3 ∨ i = 4 ∨ i = 5 ∨ i = 6 ∨ i = 7 ∨ i = 8 ∨ i = 9) with rfl | rfl | rfl | rfl | rfl | rfl | rfl | rfl | rfl | rfl
        · refine wpOpIn_yield (v := .slice to2 (X.length + (cut A x.1.1.a x.1.1.n).length) tc2) rfl rfl (fun _ h => by cases h) rfl ?_ hK
          go_simp
        · refine wpOpIn_yield (v := .slice ab B.length cab) rfl rfl (fun _ h => by cases h) rfl ?_ hK
          go_simp
        · refine wpOpIn_yield (v := .pointer (some ⟨Bc, 2, none⟩)) rfl rfl (fun _ h => by cases h) rfl ?_ hK
          go_simp
        · have e2 := pick_true (hd 2 (by simp [deps])) (.pointer (some ⟨Bc, 2, none⟩))
          refine wpOpIn_yield (v := .int .i64 x.1.2.B) rfl rfl (fun _ h => by cases h) rfl ?_ hK
          go_simp
        · refine wpOpIn_yield (v := .pointer (some ⟨Bc, 2, none⟩)) rfl rfl (fun _ h => by cases h) rfl ?_ hK
          go_simp
        · have e4 := pick_true (hd 4 (by simp [deps])) (.pointer (some ⟨Bc, 2, none⟩))
          refine wpOpIn_yield (v := .int .i64 x.1.2.B) rfl rfl (fun _ h => by cases h) rfl ?_ hK
          go_simp
        · refine wpOpIn_yield (v := .pointer (some ⟨Bc, 3, none⟩)) rfl rfl (fun _ h => by cases h) rfl ?_ hK
          go_simp
        · have e6 := pick_true (hd 6 (by simp [deps])) (.pointer (some ⟨Bc, 3, none⟩))
          refine wpOpIn_yield (v := .int .i64 x.1.2.BN) rfl rfl (fun _ h => by cases h) rfl ?_ hK
          go_simp
        · have e5 := pick_true (hd 5 (by simp [deps])) (.int .i64 x.1.2.B)
          have e7 := pick_true (hd 7 (by simp [deps])) (.int .i64 x.1.2.BN)
          refine wpOpIn_yield (v := .int .i64 (x.1.2.B + x.1.2.BN)) rfl rfl (fun _ h => by cases h) rfl ?_ hK
          go_simp
          exact wrap_small _ (by omega) (by omega)
        · have e1 := pick_true (hd 1 (by simp [deps])) (.slice ab B.length cab)
          have e3 := pick_true (hd 3 (by simp [deps])) (.int .i64 x.1.2.B)
          have e8 := pick_true (hd 8 (by simp [deps])) (.int .i64 (x.1.2.B + x.1.2.BN))
          refine wpOpIn_yield (v := .slice vob (cut B x.1.2.B x.1.2.BN).length vcb) rfl rfl (fun _ h => by cases h) rfl ?_ hK
          go_simp
      case hfin9 =>
        refine wpOpIn_append_h W2.drew rfl rfl (.tmp 43) (.tmp 52) 34 9 rfl (.string ⟨#[]⟩) 1 16 Try.underlying34 infoStr rfl (by decide) (by decide) w1.heap.size (.slice to2 (X.length + (cut A x.1.1.a x.1.1.n).length) tc2) _ _ rfl hOd2.row (.slice vob (cut B x.1.2.B x.1.2.BN).length vcb) (cut B x.1.2.B x.1.2.BN).length (scells (cut B x.1.2.B x.1.2.BN)) rfl (hsB _ (HS.keep (HS.keep hb hBWw2 (Nat.le_refl _)) (Below.dN (Below.refl W2.heap.size W2) 1) (Nat.le_refl _))) (by rw [scells_length, Nat.mul_one]) (scells_one _) (by omega) (by show _ ≤ W2.heap.size; omega) ?_
        intro v' u1 hown' hgrow hp
        obtain ⟨hv1, hO4, hk3, hp3, hal⟩ := hOd2.appended (by decide) (by decide) (by decide) (by omega) (by omega) (by show _ ≤ W2.heap.size; omega) hown' hgrow hp
        rw [← scells_append] at hO4
        obtain ⟨to3, tc3, rfl⟩ := (holds_of hown').form
        have hc1 := hv1.cell
        have hf1 := hv1.frozen
        refine wpAnyIn_ready (rs := [11]) (by kernel_rfl) (by simp) (AllReadyIn.cons rfl (fun K hK => ?_) AllReadyIn.nil)
        go_simp
        refine hK _ _ ⟨by kernel_rfl, ?_⟩
        have hkp3 := hkp2.trans ((Kp.drewN W2 1).trans hp3)
        have hko3 := hko2.trans ((KeepsOthers.drew W2).trans hk3)
        have hln2 : (X ++ cut A x.1.1.a x.1.1.n ++ cut B x.1.2.B x.1.2.BN).length = X.length + (cut A x.1.1.a x.1.1.n).length + (cut B x.1.2.B x.1.2.BN).length := by simp [Nat.add_assoc]
        have hO5 : OwnR w1.heap.size (w1.heap.size + 1 + 1) (w1.heap.size + 1) 34 9 1 (.slice to3 (X.length + (cut A x.1.1.a x.1.1.n).length + (cut B x.1.2.B x.1.2.BN).length) tc3) ((pre ++ [x]).flatMap fun x => pa A B x.1).length (scells ((pre ++ [x]).flatMap fun x => pa A B x.1)) (u1.setCell ⟨w1.heap.size + 1, 0, none⟩ (.slice to3 (X.length + (cut A x.1.1.a x.1.1.n).length + (cut B x.1.2.B x.1.2.BN).length) tc3)) := by
          rw [HZ.out, hln2]
          exact hO4
        gi_wp2
        exact ⟨hko3.from _, hkp3, ⟨_, hO5⟩, hB.trans hkp3.low⟩
  case done =>
    rintro D ys W hD hys ⟨⟨v, hO⟩, hB⟩ hK
    have hc := hO.box.cell
    gi_wp2
    refine ⟨by simp, .inl ⟨_, _, rfl, run_takeDeferred hK, ?_⟩⟩
    have hfm : (ys.flatMap fun x => pa A B x.1) = applyL l A B := by
      unfold applyL
      rw [← hys, List.flatMap_map]
    have hrw := ownsRow_putObj hO.row (Obj.deferred none) hK rfl
    rw [hfm] at hrw
    refine ⟨_, results_tmp2 rfl _ _ _, v, rfl, ?_, hBw.trans (Below.mono ((hB00.trans hB).trans (belowK_b (w := w1) (Nat.le_refl _) W D _ _ (by omega) hK rfl rfl)) hBw.size)⟩
    have hws := hBw.size
    rcases hrw.2 with h | ⟨g, cap, cur, r1, r2, r3⟩
    · exact ⟨hrw.1, .inl h⟩
    · exact ⟨hrw.1, .inr ⟨g, cap, cur, r1, by omega, r3⟩⟩
  case stop =>
    rintro D c pre W _ _ h _
    exact h.elim
end Go.Proofs.Ytdnbfgobpkpedaa
