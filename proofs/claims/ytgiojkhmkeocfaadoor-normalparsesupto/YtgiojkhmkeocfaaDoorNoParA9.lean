/-
  Texts that belong together, joined: NpRr, NpT, NpV, NpW, NpRt, HuLn, HuC2.
-/
import Derived.Test.YtgiojkhmkeocfaaDoorNoParA7
import Derived.Test.YtgiojkhmkeocfaaDoorNoParA8
import Derived.Test.YtgiojkhmkeocfaaDoorNoParA1
import Derived.Test.YtgiojkhmkeocfaaDoorNoParA3
import Derived.Test.YtgiojkhmkeocfaaDoorProg
import Derived.WalkKit
import Derived.LaidEql
import Derived.Stop.Asserts
import Derived.RowKitTokens
import Derived.Test.YtgiojkhmkeocfaaDoorNoParA4
import Derived.Test.YtgiojkhmkeocfaaDoorNoParA2
import Derived.BigQuiet

/- The reference's Parse of layer 12, walked. -/
namespace Go.Proofs.YtgiojkhmkeocfaaDoor
open Go.RowKit

theorem rp_results (tmps : Array Value) (u : World) (F : Nat) (v : Value) (a z : Int) (h2 : tmps.getD 2 undef = v) (h3 : tmps.getD 3 undef = .pointer (some ⟨F, 0, none⟩)) (hb : u.heap[F]? = some (.cells #[.int .i64 a, .int .i64 z] 35)) :
    (results Tryd.f12 tmps).run Tryd.prog u = .ok (.tuple #[v, .agg #[.int .i64 a, .int .i64 z]]) u := by
  have c0 : u.cell? ⟨F, 0, none⟩ = some (.int .i64 a) := by rw [Lib.cell_of_heap hb]; rfl
  have c1 : u.cell? ⟨F, 1, none⟩ = some (.int .i64 z) := by rw [Lib.cell_of_heap hb]; rfl
  have hL1 : (loadVar 35 ⟨F, 0, none⟩).run Tryd.prog u = .ok (.agg #[.int .i64 a, .int .i64 z]) u := by
    go_simp
  have e2 : tmps[2]?.getD undef = v := by rw [← h2]; simp
  have e3 : tmps[3]?.getD undef = .pointer (some ⟨F, 0, none⟩) := by rw [← h3]; simp
  simp [results, Tryd.results12, e2, e3, asAddr, hL1, Result.andThen]
set_option maxHeartbeats 8000000 in
set_option maxRecDepth 4000 in
theorem rNPars_f (t : List UInt8) (w : World) (hl : t.length ≤ 1099511627776) (X : Except (Nat × Int) (List Hk)) (HX : Hid (prsT t = X)) :
    Calls Tryd.prog 12 #[.string ⟨t.toArray⟩] w fun e w' => RpQ w X e w' := by
  have hX := HX.out
  clear HX
  unfold prsT at hX
  have hb0 : Below w.heap.size w (w.alloc (.cells #[.int .i64 0, .int .i64 0] 35)) := (Below.refl _ w).alloc (Nat.le_refl _) _
  have hf0 := heap_alloc_new w (.cells #[.int .i64 0, .int .i64 0] 35)
  have hz0 : (w.alloc (.cells #[.int .i64 0, .int .i64 0] 35)).heap.size = w.heap.size + 1 := by simp
  by_cases hlong : 1048576 < t.length
  · rw [if_pos hlong] at hX
    subst hX
    have hrd := rRead_long t (w.alloc (.cells #[.int .i64 0, .int .i64 0] 35)) hlong
    go_enter Tryd.func12, Tryd.ntmps12
    go_wp2_with fail
    rw [hz0] at hrd
    generalize w.alloc (.cells #[.int .i64 0, .int .i64 0] 35) = W0 at *
    refine hrd.mono ?_
    rintro e w1 ⟨rfl, q1, hb1⟩
    rw [← hz0] at hb1
    obtain ⟨R, hRd⟩ : ∃ R, w.heap.size + 1 = R := ⟨_, rfl⟩
    rw [hRd] at q1 ⊢
    have hP1 : Pr w R (.slice none 0 0) [] w1 := ⟨⟨hb0.trans (hb1.mono hb0.size), hnil_row _ _ _ _, fun x hx => by cases hx⟩, (hb1.block _ (by omega)).trans hf0, by omega⟩
    clear hrd hb1 hb0 hf0 hz0
    go_wp2_with fail
    go_loopw [5] (fun lv wr => lv = .slice none 0 0 ∧ wr = w1) (fun _ _ => 0)
    case atStart => exact ⟨rfl, rfl⟩
    case round =>
      obtain ⟨rfl, rfl⟩ := hrel
      have hP := hP1
      have q := q1
      clear hP1 q1
      have hmo := rMore_no wr q (by decide)
      go_wp2_with fail
      refine hmo.mono ?_
      rintro e w2 ⟨rfl, n2, rfl⟩
      have hP2 := hP.dN n2
      have q2 : Rx (wr.drewN n2) R (.slice none 0 0) 0 ((0 : Nat) : Int) 9 := q
      clear hmo hP q
      generalize wr.drewN n2 = W2 at hP2 q2 ⊢
      obtain ⟨r0, r1, r2, r3⟩ := q2.cells
      have s0 := heap_setCell_same W2 w.heap.size 0 _ _ (.int .i64 ((0 : Nat) : Int)) hP2.fb
      have s1 := heap_setCell_same _ w.heap.size 1 _ _ (.int .i64 9) s0
      have t0 : W2.cell? ⟨w.heap.size, 0, none⟩ = some (.int .i64 0) := by rw [Lib.cell_of_heap hP2.fb]; rfl
      have t1 : W2.cell? ⟨w.heap.size, 1, none⟩ = some (.int .i64 0) := by rw [Lib.cell_of_heap hP2.fb]; rfl
      have t2 := Lib.frozen_of_heap hP2.fb 0
      have t3 := Lib.frozen_of_heap hP2.fb 1
      have hb2 : Below w.heap.size w ((W2.setCell ⟨w.heap.size, 0, none⟩ (.int .i64 ((0 : Nat) : Int))).setCell ⟨w.heap.size, 1, none⟩ (.int .i64 9)) := (hP2.hs.low.setCell (Nat.le_refl _) _).setCell (Nat.le_refl _) _
      have HS1 : Hid (_ = _) := s1
      have HB : Hid (Below w.heap.size w _) := hb2
      clear s0 s1 hb2 hP2 q2
      go_wp2_with fail
      go_region
      go_wp2
      exact bodyPost_ret (v := .tuple #[.slice none 0 0, .agg #[.int .i64 ((0 : Nat) : Int), .int .i64 9]]) (rp_results _ _ w.heap.size _ ((0 : Nat) : Int) 9 rfl rfl HS1.out) rfl ⟨rfl, HB.out.drew⟩
  · rw [if_neg hlong] at hX
    have hrd := rRead_f t (w.alloc (.cells #[.int .i64 0, .int .i64 0] 35)) (by omega)
    have HPl : Hid (Plain (Ln.splitL t)) := split_plain t
    have HSl : Hid (∀ s ∈ Ln.splitL t, s.length ≤ 1048576) := split_short (by omega)
    have hsl := Ln.split_len t
    generalize Ln.splitL t = L at *
    have hLl : L.length ≤ 1048576 := by omega
    go_enter Tryd.func12, Tryd.ntmps12
    go_wp2_with fail
    generalize w.alloc (.cells #[.int .i64 0, .int .i64 0] 35) = W0 at *
    refine hrd.mono ?_
    rintro e w1 ⟨R, lo, lc, rfl, q1, hL1, hRl, hR1, hb1⟩
    have hP1 : Pr w R (.slice none 0 0) [] w1 := ⟨⟨hb0.trans (hb1.mono hb0.size), hnil_row _ _ _ _, fun x hx => by cases hx⟩, (hb1.block _ (by omega)).trans hf0, by omega⟩
    have hA1 : AlP R (.slice lo L.length lc) L X [] w1 := .inl ⟨0, L.length, q1, Nat.zero_le _, Nat.zero_le _, by simp, by
      rw [← hX]
      simp only [List.map_nil, List.drop_zero, List.length_nil]
      cases hksP L.length 0 0 L <;> rfl⟩
    have hL1' := owns_less hL1 hb0.size
    clear hrd hX q1 hb1 hb0 hf0 hz0 hL1
    go_wp2_with fail
    go_loopw [5] (fun lv wr => ∃ (P : List (Hk × Value)) (o : Option Addr) (c : Nat), lv = .slice o P.length c ∧ P.length ≤ 1048577 ∧ Pr w R (.slice o P.length c) P wr ∧ AlP R (.slice lo L.length lc) L X P wr ∧ wr.ownsRow w.heap.size 9 1 (.slice lo L.length lc) L.length (scells L)) (fun _ wr => rmAt wr R L.length)
    case atStart => exact ⟨[], none, 0, rfl, by simp, hP1, hA1, hL1'⟩
    case round =>
      clear hP1 hA1 hL1'
      obtain ⟨P, o, c, rfl, hPl, hP, hA, hL⟩ := hrel
      rcases hA with ⟨p, f, q, hp, hPp, hf, hY⟩ | ⟨p', a, fe, q, hfe, hY⟩
      · by_cases hlt : p < L.length
        · obtain ⟨f', rfl⟩ : ∃ f', f = f' + 1 := ⟨f - 1, by rw [List.length_drop] at hf; omega⟩
          have hne : L.drop p ≠ [] := (by intro h; have := congrArg List.length h; rw [List.length_drop] at this; simp at this; omega)
          have hd1 : (decide ((0 : Int) = 0) && decide (p < L.length)) = true := by simp [hlt]
          have hmo := rMore_f wr q
          rw [hd1] at hmo
          go_wp2_with fail
          refine hmo.mono ?_
          rintro e w2 ⟨rfl, n2, rfl⟩
          have hP2 := hP.dN n2
          have q2 : Rx (wr.drewN n2) R (.slice lo L.length lc) (p : Int) 0 0 := q
          have hL2 : (wr.drewN n2).ownsRow w.heap.size 9 1 (.slice lo L.length lc) L.length (scells L) := hL
          have HM : Hid (rmAt wr R L.length = L.length + 1 - p) := rmAt_ok q
          clear hmo hd1 hP q hL
          generalize wr.drewN n2 = W2 at hP2 q2 hL2 ⊢
          obtain ⟨Z, hZ⟩ : ∃ Z, hkP P.length p (L.drop p) = Z := ⟨_, rfl⟩
          have hneR : ∀ k, some R = some k → (Value.slice lo L.length lc).ownBlock ≠ some k := fun k e => (by cases e; exact own_box hL2 q2 (by decide))
          have hk := rhunk_f W2 q2 (fun u hu => holds_of (row_far hL2 hu hneR)) hRl hp hLl HSl P.length (by omega) Z hZ
          go_wp2_with fail
          refine hk.mono ?_
          rintro e w3 ⟨h, v, rfl, hown3, hg3, hE3⟩
          have hP3 := hP2.call q2 hg3
          have hL3 := row_far hL2 hg3 hneR
          have hown3' := owns_less hown3 hP2.hs.low.size
          obtain ⟨vo, vc, rfl⟩ := (holds_of hown3).form
          clear hk hP2 q2 hL2 hneR hown3 hg3
          have hA3 : Hid (∀ u y, (∀ {vL : Value} {p fa fe : Int}, Rx w3 R vL p fa fe → Rx u R vL p fa fe) → AlP R (.slice lo L.length lc) L X (P ++ [(h, y)]) u ∧ rmAt u R L.length < L.length + 1 - p) := (by
            intro u y hk
            cases Z with
            | error z =>
              obtain ⟨a, z⟩ := z
              obtain ⟨⟨p', hr⟩, hz⟩ := hE3
              refine ⟨.inr ⟨p', a, z, hk hr, hz, by rw [← hY]; exact hksP_stop hne hZ _⟩, ?_⟩
              rw [rmAt_no (hk hr) hz]
              omega
            | ok z =>
              obtain ⟨h1, p1, r⟩ := z
              obtain ⟨rfl, hr, hd⟩ := hE3
              obtain ⟨k1, k2, _⟩ := hkP_ok (fun s hs => HPl.out s (List.mem_of_mem_drop hs)) hZ
              rw [← hd, List.length_drop, List.length_drop] at k2
              have hc1 : 1 ≤ hkC1 h := by unfold hkC1; omega
              have hp1 : p1 ≤ L.length := by omega
              refine ⟨.inl ⟨p1, f', hk hr, hp1, by rw [List.length_append]; simp; omega, by rw [List.length_drop] at hf ⊢; omega, ?_⟩, ?_⟩
              · rw [← hY, hksP_step hne hZ, hd, List.map_append, List.length_append]
                rfl
              · rw [rmAt_ok (hk hr)]
                omega)
          clear hY hE3 hZ hne hf
          have hSA := hP3.alloc (hkO h (.slice vo h.ls.length vc))
          have hLA := hL3.alloc (hkO h (.slice vo h.ls.length vc))
          have hyA := hown3'.alloc (hkO h (.slice vo h.ls.length vc))
          have HRA : Hid (∀ {vL : Value} {p fa fe : Int}, Rx w3 R vL p fa fe → Rx (w3.alloc (hkO h (.slice vo h.ls.length vc))) R vL p fa fe) := fun q => q.low ((Below.refl _ w3).alloc (Nat.le_refl _) _)
          have hW : w3.alloc (Obj.cells #[Value.int IntKind.i64 h.A, Value.int IntKind.i64 h.AN, Value.int IntKind.i64 h.B, Value.int IntKind.i64 h.BN, .slice vo h.ls.length vc] 43) = w3.alloc (hkO h (.slice vo h.ls.length vc)) := rfl
          have hrow := one_row w3 h (.slice vo h.ls.length vc)
          have hownA := hSA.hs.own
          have hbs := hSA.hs.low.size
          have hxk : P.length + 1 ≤ 2199023255552 := by omega
          clear hP3 hL3 hown3'
          unfold hkV
          go_wp2_with (at_builtin; refine wpList_append_w _ (by kernel_rfl) (.tmp 10) (.tmp 15) 29 43 (.agg #[.int .i64 0, .int .i64 0, .int .i64 0, .int .i64 0, .slice none 0 0]) 5 56 rfl Tryd.underlying29 infoHk rfl (by decide) (by decide) w.heap.size _ _ _ rfl hownA _ 1 (hkC h (.slice vo h.ls.length vc)) rfl hrow rfl (hkC_one _) hxk hbs ?_)
          intro v3 u3 hown4 hg4 _
          obtain ⟨hP4, hR4⟩ := hSA.more hyA hg4 hown4
          have hL4 := row_two hLA hownA (by decide) hg4
          obtain ⟨o3, c3, rfl⟩ := (holds_of hown4).form
          have hA4 := hA3.out u3 (.slice vo h.ls.length vc) (fun q => hR4 (HRA.out q))
          clear hW hrow hownA hSA hLA hyA hA3 HRA hown4 hg4 hR4
          go_wp2
          refine ⟨⟨P ++ [(h, .slice vo h.ls.length vc)], o3, c3, by simp, by simp; omega, by simpa using hP4, hA4.1, hL4⟩, ?_⟩
          rw [HM.out]
          exact hA4.2
        · have hpe : p = L.length := by omega
          have hXv : X = .ok (P.map (·.1)) := (by
            rw [← hY, hpe, List.drop_length]
            cases f with
            | zero => simp [hksP, thenH]
            | succ f => simp [hksP, thenH])
          subst hXv
          have hd1 : (decide ((0 : Int) = 0) && decide (p < L.length)) = false := by simp [hlt]
          have hmo := rMore_f wr q
          rw [hd1] at hmo
          go_wp2_with fail
          refine hmo.mono ?_
          rintro e w2 ⟨rfl, n2, rfl⟩
          have hP2 := hP.dN n2
          have q2 : Rx (wr.drewN n2) R (.slice lo L.length lc) (p : Int) 0 0 := q
          clear hmo hd1 hP q hL hY
          generalize wr.drewN n2 = W2 at hP2 q2 ⊢
          obtain ⟨r0, r1, r2, r3⟩ := q2.cells
          have s0 := heap_setCell_same W2 w.heap.size 0 _ _ (.int .i64 0) hP2.fb
          have s1 := heap_setCell_same _ w.heap.size 1 _ _ (.int .i64 0) s0
          have t0 : W2.cell? ⟨w.heap.size, 0, none⟩ = some (.int .i64 0) := by rw [Lib.cell_of_heap hP2.fb]; rfl
          have t1 : W2.cell? ⟨w.heap.size, 1, none⟩ = some (.int .i64 0) := by rw [Lib.cell_of_heap hP2.fb]; rfl
          have t2 := Lib.frozen_of_heap hP2.fb 0
          have t3 := Lib.frozen_of_heap hP2.fb 1
          have hg1 := grown_set W2 w.heap.size 0 (.int .i64 0)
          have hg2 := grown_set (W2.setCell ⟨w.heap.size, 0, none⟩ (.int .i64 0)) w.heap.size 1 (.int .i64 0)
          have hH1 := hP2.hs.grown (grown_two hg1 hg2) (fun k e => by cases e; exact Nat.le_refl _) (fun k e => by cases e; exact own_box hP2.hs.own hP2.fb (by decide)) (fun x hx k e => by cases e; exact own_box (hP2.hs.ins x hx) hP2.fb (by decide))
          have HS1 : Hid (_ = _) := s1
          have HH1 : Hid (Hs w (.slice o P.length c) P _) := hH1
          clear s0 s1 hg1 hg2 hH1 hP2 q2
          go_wp2
          exact bodyPost_ret (v := .tuple #[.slice o P.length c, .agg #[.int .i64 0, .int .i64 0]]) (rp_results _ _ w.heap.size _ 0 0 rfl rfl HS1.out) rfl ⟨_, P, rfl, HH1.out, rfl⟩
      · subst hY
        have hmo := rMore_no wr q hfe
        go_wp2_with fail
        refine hmo.mono ?_
        rintro e w2 ⟨rfl, n2, rfl⟩
        have hP2 := hP.dN n2
        have q2 : Rx (wr.drewN n2) R (.slice lo L.length lc) p' (a : Int) fe := q
        clear hmo hP q hL
        generalize wr.drewN n2 = W2 at hP2 q2 ⊢
        obtain ⟨r0, r1, r2, r3⟩ := q2.cells
        have hfb : (fe == 0) = false := beq_eq_false_iff_ne.2 hfe
        have s0 := heap_setCell_same W2 w.heap.size 0 _ _ (.int .i64 (a : Int)) hP2.fb
        have s1 := heap_setCell_same _ w.heap.size 1 _ _ (.int .i64 fe) s0
        have t0 : W2.cell? ⟨w.heap.size, 0, none⟩ = some (.int .i64 0) := by rw [Lib.cell_of_heap hP2.fb]; rfl
        have t1 : W2.cell? ⟨w.heap.size, 1, none⟩ = some (.int .i64 0) := by rw [Lib.cell_of_heap hP2.fb]; rfl
        have t2 := Lib.frozen_of_heap hP2.fb 0
        have t3 := Lib.frozen_of_heap hP2.fb 1
        have hb2 : Below w.heap.size w ((W2.setCell ⟨w.heap.size, 0, none⟩ (.int .i64 (a : Int))).setCell ⟨w.heap.size, 1, none⟩ (.int .i64 fe)) := (hP2.hs.low.setCell (Nat.le_refl _) _).setCell (Nat.le_refl _) _
        have HS1 : Hid (_ = _) := s1
        have HB : Hid (Below w.heap.size w _) := hb2
        clear s0 s1 hb2 hP2 q2
        go_wp2_with fail
        go_region
        go_wp2
        exact bodyPost_ret (v := .tuple #[.slice none 0 0, .agg #[.int .i64 (a : Int), .int .i64 fe]]) (rp_results _ _ w.heap.size _ (a : Int) fe rfl rfl HS1.out) rfl ⟨rfl, HB.out.drew⟩
end Go.Proofs.YtgiojkhmkeocfaaDoor

/- The reference's Same of layer 11, walked for any two hunks. -/
namespace Go.Proofs.YtgiojkhmkeocfaaDoor
open Go.RowKit

theorem hksC_few (l : List Hk) : l.length ≤ hksC l ∧ ∀ x ∈ l, x.ls.length ≤ hksC l := by
  induction l with
  | nil => exact ⟨Nat.le_refl _, fun x hx => by cases hx⟩
  | cons h l ih =>
    simp only [hksC, hkC1, List.length_cons]
    refine ⟨by omega, fun x hx => ?_⟩
    rcases List.mem_cons.1 hx with rfl | hx
    · omega
    · have := ih.2 x hx
      omega
theorem prs_few {t : List UInt8} {l : List Hk} (h : prsT t = .ok l) : l.length ≤ t.length ∧ ∀ x ∈ l, x.ls.length ≤ t.length := by
  have h1 := prs_count h
  have h2 := Ln.split_len t
  obtain ⟨h3, h4⟩ := hksC_few l
  exact ⟨by omega, fun x hx => by have := h4 x hx; omega⟩
end Go.Proofs.YtgiojkhmkeocfaaDoor

/- errors.As at two concrete targets, walked over Go's own text: an error that is a fault's pointer, an error that is a number. The model's entries for internal/reflectlite at this program: closed facts, and three small laws on those that read or write memory. -/
namespace Go.Proofs.YtgiojkhmkeocfaaDoor.Es
open Go.RowKit Go.Extern.Stop Go.Stop Go.Extern

theorem mKind (h : Value) (w : World) : (Go.method 354 160 (.agg #[h]) "Kind").run Tryd.prog w = .ok (210, h) w := by kernel_rfl
theorem mElem (h : Value) (w : World) : (Go.method 354 160 (.agg #[h]) "Elem").run Tryd.prog w = .ok (223, .agg #[h]) w := by kernel_rfl
theorem mImplements (h : Value) (w : World) : (Go.method 354 160 (.agg #[h]) "Implements").run Tryd.prog w = .ok (224, .agg #[h]) w := by kernel_rfl
theorem mAssignableTo (h : Value) (w : World) : (Go.method 354 160 (.agg #[h]) "AssignableTo").run Tryd.prog w = .ok (221, .agg #[h]) w := by kernel_rfl

theorem Ef.valueOfP (t : Addr) (w : World) : (ReflectliteValue.unpack (.iface 85 (.pointer (some t)))).run Tryd.prog w
    = .ok (.agg #[.pointer (some ⟨5, 85, none⟩), .pointer (some ⟨w.heap.size, 0, none⟩), .int .u64 150]) (w.alloc (.cells #[.pointer (some t)] 85)) := by kernel_rfl
theorem Ef.typeP (a : Addr) (w : World) : (ReflectliteValue.methodAny (ReflectliteValue.valueError "reflectlite.Value.Type" 0) (fun t _ _ _ => ReflectliteType.toType t) #[.agg #[.pointer (some ⟨5, 85, none⟩), .pointer (some a), .int .u64 150]]).run Tryd.prog w
    = .ok (.iface 160 (.agg #[.pointer (some ⟨5, 85, none⟩)])) w := by kernel_rfl
theorem Ef.kindP (w : World) : ((ReflectliteType.abiMethod fun t => Functor.map (fun a : Nat => Value.int IntKind.u8 (a : Int)) (Rtype.kind t)) #[.pointer (some ⟨5, 85, none⟩)]).run Tryd.prog w = .ok (.int .u8 22) w := by kernel_rfl
theorem Ef.kindE (w : World) : ((ReflectliteType.abiMethod fun t => Functor.map (fun a : Nat => Value.int IntKind.u8 (a : Int)) (Rtype.kind t)) #[.pointer (some ⟨5, 74, none⟩)]).run Tryd.prog w = .ok (.int .u8 22) w := by kernel_rfl
theorem Ef.partsP (a : Addr) (w : World) : (ReflectliteValue.parts (.agg #[.pointer (some ⟨5, 85, none⟩), .pointer (some a), .int .u64 150])).run Tryd.prog w = .ok (some (85, a, 150)) w := by kernel_rfl
theorem Ef.isNilP (a p : Addr) (W : World) (ha : W.cell? a = some (.pointer (some p))) :
    (ReflectliteValue.method (ReflectliteValue.valueError "reflectlite.Value.IsNil" 0) ReflectliteValue.isNil #[.agg #[.pointer (some ⟨5, 85, none⟩), .pointer (some a), .int .u64 150]]).run Tryd.prog W = .ok (.bool false) W := by
  show Sem.run Tryd.prog (ReflectliteValue.parts (.agg #[.pointer (some ⟨5, 85, none⟩), .pointer (some a), .int .u64 150]) >>= _) W = _
  simp only [Sem.run_bind, Ef.partsP, Result.andThen]
  simp [ReflectliteValue.isNil, loadVar, isAgg, underlying, Tryd.underlying85, ha, Result.andThen]
theorem Ef.elemP (w : World) : (ReflectliteType.method ReflectliteType.elem #[.agg #[.pointer (some ⟨5, 85, none⟩)]]).run Tryd.prog w = .ok (.iface 160 (.agg #[.pointer (some ⟨5, 74, none⟩)])) w := by kernel_rfl
theorem Ef.implementsE (w : World) : (ReflectliteType.relation "Implements" ReflectliteType.implements_ #[.agg #[.pointer (some ⟨5, 74, none⟩)], .iface 160 (.agg #[.pointer (some ⟨5, 31, none⟩)])]).run Tryd.prog w = .ok (.bool true) w := by kernel_rfl
theorem Ef.typeOfE (v : Value) (w : World) : (ReflectliteType.typeOf #[.iface 74 v]).run Tryd.prog w = .ok (.iface 160 (.agg #[.pointer (some ⟨5, 74, none⟩)])) w := by kernel_rfl
theorem Ef.assignableE (w : World) : (ReflectliteType.relation "AssignableTo" ReflectliteType.assignableTo #[.agg #[.pointer (some ⟨5, 74, none⟩)], .iface 160 (.agg #[.pointer (some ⟨5, 74, none⟩)])]).run Tryd.prog w = .ok (.bool true) w := by kernel_rfl
theorem Ef.valueOfE (e : Addr) (w : World) : (ReflectliteValue.unpack (.iface 74 (.pointer (some e)))).run Tryd.prog w
    = .ok (.agg #[.pointer (some ⟨5, 74, none⟩), .pointer (some ⟨w.heap.size, 0, none⟩), .int .u64 150]) (w.alloc (.cells #[.pointer (some e)] 74)) := by kernel_rfl
theorem Ef.elemOfP (w : World) : (Rtype.elem? 85).run Tryd.prog w = .ok (some 74) w := by kernel_rfl
theorem Ef.mkE (p : Addr) (w : World) : (ReflectliteValue.mk 74 p ReflectliteValue.flagAddr).run Tryd.prog w = .ok (.agg #[.pointer (some ⟨5, 74, none⟩), .pointer (some p), .int .u64 406]) w := by kernel_rfl
theorem Ef.elemVP (a p : Addr) (W : World) (ha : W.cell? a = some (.pointer (some p))) :
    (ReflectliteValue.method (ReflectliteValue.valueError "reflectlite.Value.Elem" 0) ReflectliteValue.elem #[.agg #[.pointer (some ⟨5, 85, none⟩), .pointer (some a), .int .u64 150]]).run Tryd.prog W
      = .ok (.agg #[.pointer (some ⟨5, 74, none⟩), .pointer (some p), .int .u64 406]) W := by
  show Sem.run Tryd.prog (ReflectliteValue.parts (.agg #[.pointer (some ⟨5, 85, none⟩), .pointer (some a), .int .u64 150]) >>= _) W = _
  simp only [Sem.run_bind, Ef.partsP, Result.andThen]
  simp [ReflectliteValue.elem, loadVar, isAgg, underlying, Tryd.underlying85, ha, Result.andThen, Ef.elemOfP, Ef.mkE]
theorem Ef.partsEa (a : Addr) (w : World) : (ReflectliteValue.parts (.agg #[.pointer (some ⟨5, 74, none⟩), .pointer (some a), .int .u64 406])).run Tryd.prog w = .ok (some (74, a, 406)) w := by kernel_rfl
theorem Ef.partsE (a : Addr) (w : World) : (ReflectliteValue.parts (.agg #[.pointer (some ⟨5, 74, none⟩), .pointer (some a), .int .u64 150])).run Tryd.prog w = .ok (some (74, a, 150)) w := by kernel_rfl
theorem Ef.directE (w : World) : (Rtype.directlyAssignable 74 74).run Tryd.prog w = .ok true w := by kernel_rfl
theorem Ef.setE (ta b : Addr) (e : Addr) (old : Value) (W : World) (hb : W.cell? b = some (.pointer (some e))) (ht : W.cell? ta = some old) (hf : W.frozen? ta = false) :
    (ReflectliteValue.set #[.agg #[.pointer (some ⟨5, 74, none⟩), .pointer (some ta), .int .u64 406], .agg #[.pointer (some ⟨5, 74, none⟩), .pointer (some b), .int .u64 150]]).run Tryd.prog W
      = .ok (.tuple #[]) (W.setCell ta (.pointer (some e))) := by
  show Sem.run Tryd.prog (ReflectliteValue.parts (.agg #[.pointer (some ⟨5, 74, none⟩), .pointer (some ta), .int .u64 406]) >>= fun p => ReflectliteValue.parts (.agg #[.pointer (some ⟨5, 74, none⟩), .pointer (some b), .int .u64 150]) >>= fun q => _) W = _
  simp only [Sem.run_bind, Ef.partsEa, Ef.partsE, Result.andThen]
  simp [ReflectliteValue.flagAddr, loadVar, isAgg, underlying, Tryd.underlying74, hb, Result.andThen, Ef.directE, storeVar, Value.cells, storeCells, Addr.add]
  rw [run_store Tryd.prog W ta _ _ (by rfl)]
  simp [ht, hf]
set_option maxHeartbeats 4000000 in
theorem Ef.as_hit (e : Addr) (t : Addr) (old : Value) (w : World) (hg : w.cell? ⟨0, 0, none⟩ = some (.iface 160 (.agg #[.pointer (some ⟨5, 31, none⟩)]))) (ht0 : w.cell? t = some old) (hf0 : w.frozen? t = false) :
    Calls Tryd.prog 43 #[.iface 74 (.pointer (some e)), .iface 85 (.pointer (some t))] w fun ev w' => ev = .returned (.bool true) ∧ w' = ((((w.alloc (.cells #[.pointer (some t)] 85)).alloc (.cells #[.pointer (some ⟨5, 85, none⟩), .pointer (some ⟨w.heap.size, 0, none⟩), .int .u64 150] 125)).alloc (.cells #[.pointer (some ⟨5, 85, none⟩), .pointer (some ⟨w.heap.size, 0, none⟩), .int .u64 150] 125)).alloc (.cells #[.pointer (some e)] 74)).setCell t (.pointer (some e)) := by
  have h6 := @run_callFunc_extern Tryd.prog 85 _ (fun args => ReflectliteValue.unpack (args.getD 0 (.tuple #[]))) Tryd.func85 (by kernel_rfl) (by kernel_rfl) (by kernel_rfl) (by kernel_rfl)
  have h7 := @run_callFunc_extern Tryd.prog 86 _ (ReflectliteValue.methodAny (ReflectliteValue.valueError "reflectlite.Value.Type" 0) (fun t _ _ _ => ReflectliteType.toType t)) Tryd.func86 (by kernel_rfl) (by kernel_rfl) (by kernel_rfl) (by kernel_rfl)
  have h8 := @run_callFunc_extern Tryd.prog 87 _ (ReflectliteValue.method (ReflectliteValue.valueError "reflectlite.Value.IsNil" 0) ReflectliteValue.isNil) Tryd.func87 (by kernel_rfl) (by kernel_rfl) (by kernel_rfl) (by kernel_rfl)
  have h27 := @run_callFunc_extern Tryd.prog 210 _ (ReflectliteType.abiMethod fun t => do pure (.int .u8 (← Rtype.kind t))) Tryd.func210 (by kernel_rfl) (by kernel_rfl) (by kernel_rfl) (by kernel_rfl)
  have h37 := @run_callFunc_extern Tryd.prog 223 _ (ReflectliteType.method ReflectliteType.elem) Tryd.func223 (by kernel_rfl) (by kernel_rfl) (by kernel_rfl) (by kernel_rfl)
  have h38 := @run_callFunc_extern Tryd.prog 224 _ (ReflectliteType.relation "Implements" ReflectliteType.implements_) Tryd.func224 (by kernel_rfl) (by kernel_rfl) (by kernel_rfl) (by kernel_rfl)
  have h10 := @run_callFunc_extern Tryd.prog 124 _ ReflectliteType.typeOf Tryd.func124 (by kernel_rfl) (by kernel_rfl) (by kernel_rfl) (by kernel_rfl)
  have h35 := @run_callFunc_extern Tryd.prog 221 _ (ReflectliteType.relation "AssignableTo" ReflectliteType.assignableTo) Tryd.func221 (by kernel_rfl) (by kernel_rfl) (by kernel_rfl) (by kernel_rfl)
  have h11 := @run_callFunc_extern Tryd.prog 125 _ (ReflectliteValue.method (ReflectliteValue.valueError "reflectlite.Value.Elem" 0) ReflectliteValue.elem) Tryd.func125 (by kernel_rfl) (by kernel_rfl) (by kernel_rfl) (by kernel_rfl)
  have h12 := @run_callFunc_extern Tryd.prog 126 _ ReflectliteValue.set Tryd.func126 (by kernel_rfl) (by kernel_rfl) (by kernel_rfl) (by kernel_rfl)
  have tO := Ef.typeOfE
  have mA := mAssignableTo
  have a25 := Ef.assignableE
  have v25 := Ef.valueOfE
  have f6 := Ef.valueOfP
  have f7 := Ef.typeP
  have mK := mKind
  have mE := mElem
  have mI := mImplements
  have k27 := Ef.kindP
  have k25 := Ef.kindE
  have e27 := Ef.elemP
  have i25 := Ef.implementsE
  have n8 := Ef.isNilP ⟨w.heap.size, 0, none⟩ t ((w.alloc (.cells #[.pointer (some t)] 85)).alloc (.cells #[.pointer (some ⟨5, 85, none⟩), .pointer (some ⟨w.heap.size, 0, none⟩), .int .u64 150] 125)) (by simp)
  have hlt : 0 < w.heap.size := by
    rcases Nat.lt_or_ge 0 w.heap.size with h | h
    · exact h
    · simp [World.cell?, Array.getElem?_eq_none h] at hg
  have hg2 : ((w.alloc (.cells #[.pointer (some t)] 85)).alloc (.cells #[.pointer (some ⟨5, 85, none⟩), .pointer (some ⟨w.heap.size, 0, none⟩), .int .u64 150] 125)).cell? ⟨0, 0, none⟩ = some (.iface 160 (.agg #[.pointer (some ⟨5, 31, none⟩)])) := by
    rw [World.cell?_alloc_lt _ _ ⟨0, 0, none⟩ (by simp <;> omega), World.cell?_alloc_lt _ _ ⟨0, 0, none⟩ hlt]; exact hg
  have htl : t.block < w.heap.size := by
    rcases Nat.lt_or_ge t.block w.heap.size with h | h
    · exact h
    · simp [World.cell?, Array.getElem?_eq_none h] at ht0
  have el := Ef.elemVP ⟨w.heap.size, 0, none⟩ t (((w.alloc (.cells #[.pointer (some t)] 85)).alloc (.cells #[.pointer (some ⟨5, 85, none⟩), .pointer (some ⟨w.heap.size, 0, none⟩), .int .u64 150] 125)).alloc (.cells #[.pointer (some ⟨5, 85, none⟩), .pointer (some ⟨w.heap.size, 0, none⟩), .int .u64 150] 125)) (by rw [World.cell?_alloc_lt _ _ ⟨w.heap.size, 0, none⟩ (by simp; omega)]; simp)
  have st := Ef.setE t ⟨w.heap.size + 1 + 1 + 1, 0, none⟩ e old ((((w.alloc (.cells #[.pointer (some t)] 85)).alloc (.cells #[.pointer (some ⟨5, 85, none⟩), .pointer (some ⟨w.heap.size, 0, none⟩), .int .u64 150] 125)).alloc (.cells #[.pointer (some ⟨5, 85, none⟩), .pointer (some ⟨w.heap.size, 0, none⟩), .int .u64 150] 125)).alloc (.cells #[.pointer (some e)] 74))
    (by rw [World.cell?_alloc_at _ _ _ _ (by simp)]; rfl)
    (by rw [World.cell?_alloc_lt _ _ t (by simp; omega), World.cell?_alloc_lt _ _ t (by simp; omega), World.cell?_alloc_lt _ _ t (by simp; omega), World.cell?_alloc_lt _ _ t htl]; exact ht0)
    (by rw [World.frozen?_alloc_old _ _ t (by simp; omega), World.frozen?_alloc_old _ _ t (by simp; omega), World.frozen?_alloc_old _ _ t (by simp; omega), World.frozen?_alloc_old _ _ t (Nat.ne_of_lt htl)]; exact hf0)
  go_enter Tryd.func43, Tryd.ntmps43
  go_wp2
  refine wp_loop_rounds 1 ?_
  rw [rounds_succ]
  go_wp2
  go_ret
  exact ⟨rfl, rfl⟩

theorem En.valueOfP (t : Addr) (w : World) : (ReflectliteValue.unpack (.iface 86 (.pointer (some t)))).run Tryd.prog w
    = .ok (.agg #[.pointer (some ⟨5, 86, none⟩), .pointer (some ⟨w.heap.size, 0, none⟩), .int .u64 150]) (w.alloc (.cells #[.pointer (some t)] 86)) := by kernel_rfl
theorem En.typeP (a : Addr) (w : World) : (ReflectliteValue.methodAny (ReflectliteValue.valueError "reflectlite.Value.Type" 0) (fun t _ _ _ => ReflectliteType.toType t) #[.agg #[.pointer (some ⟨5, 86, none⟩), .pointer (some a), .int .u64 150]]).run Tryd.prog w
    = .ok (.iface 160 (.agg #[.pointer (some ⟨5, 86, none⟩)])) w := by kernel_rfl
theorem En.kindP (w : World) : ((ReflectliteType.abiMethod fun t => Functor.map (fun a : Nat => Value.int IntKind.u8 (a : Int)) (Rtype.kind t)) #[.pointer (some ⟨5, 86, none⟩)]).run Tryd.prog w = .ok (.int .u8 22) w := by kernel_rfl
theorem En.kindE (w : World) : ((ReflectliteType.abiMethod fun t => Functor.map (fun a : Nat => Value.int IntKind.u8 (a : Int)) (Rtype.kind t)) #[.pointer (some ⟨5, 24, none⟩)]).run Tryd.prog w = .ok (.int .u8 2) w := by kernel_rfl
theorem En.partsP (a : Addr) (w : World) : (ReflectliteValue.parts (.agg #[.pointer (some ⟨5, 86, none⟩), .pointer (some a), .int .u64 150])).run Tryd.prog w = .ok (some (86, a, 150)) w := by kernel_rfl
theorem En.isNilP (a p : Addr) (W : World) (ha : W.cell? a = some (.pointer (some p))) :
    (ReflectliteValue.method (ReflectliteValue.valueError "reflectlite.Value.IsNil" 0) ReflectliteValue.isNil #[.agg #[.pointer (some ⟨5, 86, none⟩), .pointer (some a), .int .u64 150]]).run Tryd.prog W = .ok (.bool false) W := by
  show Sem.run Tryd.prog (ReflectliteValue.parts (.agg #[.pointer (some ⟨5, 86, none⟩), .pointer (some a), .int .u64 150]) >>= _) W = _
  simp only [Sem.run_bind, En.partsP, Result.andThen]
  simp [ReflectliteValue.isNil, loadVar, isAgg, underlying, Tryd.underlying86, ha, Result.andThen]
theorem En.elemP (w : World) : (ReflectliteType.method ReflectliteType.elem #[.agg #[.pointer (some ⟨5, 86, none⟩)]]).run Tryd.prog w = .ok (.iface 160 (.agg #[.pointer (some ⟨5, 24, none⟩)])) w := by kernel_rfl
theorem En.implementsE (w : World) : (ReflectliteType.relation "Implements" ReflectliteType.implements_ #[.agg #[.pointer (some ⟨5, 24, none⟩)], .iface 160 (.agg #[.pointer (some ⟨5, 31, none⟩)])]).run Tryd.prog w = .ok (.bool true) w := by kernel_rfl
theorem En.typeOfE (v : Value) (w : World) : (ReflectliteType.typeOf #[.iface 24 v]).run Tryd.prog w = .ok (.iface 160 (.agg #[.pointer (some ⟨5, 24, none⟩)])) w := by kernel_rfl
theorem En.assignableE (w : World) : (ReflectliteType.relation "AssignableTo" ReflectliteType.assignableTo #[.agg #[.pointer (some ⟨5, 24, none⟩)], .iface 160 (.agg #[.pointer (some ⟨5, 24, none⟩)])]).run Tryd.prog w = .ok (.bool true) w := by kernel_rfl
theorem En.valueOfE (z : Int) (w : World) : (ReflectliteValue.unpack (.iface 24 (.int .i64 z))).run Tryd.prog w
    = .ok (.agg #[.pointer (some ⟨5, 24, none⟩), .pointer (some ⟨w.heap.size, 0, none⟩), .int .u64 130]) (w.alloc (.cells #[.int .i64 z] 24)) := by kernel_rfl
theorem En.elemOfP (w : World) : (Rtype.elem? 86).run Tryd.prog w = .ok (some 24) w := by kernel_rfl
theorem En.mkE (p : Addr) (w : World) : (ReflectliteValue.mk 24 p ReflectliteValue.flagAddr).run Tryd.prog w = .ok (.agg #[.pointer (some ⟨5, 24, none⟩), .pointer (some p), .int .u64 386]) w := by kernel_rfl
theorem En.elemVP (a p : Addr) (W : World) (ha : W.cell? a = some (.pointer (some p))) :
    (ReflectliteValue.method (ReflectliteValue.valueError "reflectlite.Value.Elem" 0) ReflectliteValue.elem #[.agg #[.pointer (some ⟨5, 86, none⟩), .pointer (some a), .int .u64 150]]).run Tryd.prog W
      = .ok (.agg #[.pointer (some ⟨5, 24, none⟩), .pointer (some p), .int .u64 386]) W := by
  show Sem.run Tryd.prog (ReflectliteValue.parts (.agg #[.pointer (some ⟨5, 86, none⟩), .pointer (some a), .int .u64 150]) >>= _) W = _
  simp only [Sem.run_bind, En.partsP, Result.andThen]
  simp [ReflectliteValue.elem, loadVar, isAgg, underlying, Tryd.underlying86, ha, Result.andThen, En.elemOfP, En.mkE]
theorem En.partsEa (a : Addr) (w : World) : (ReflectliteValue.parts (.agg #[.pointer (some ⟨5, 24, none⟩), .pointer (some a), .int .u64 386])).run Tryd.prog w = .ok (some (24, a, 386)) w := by kernel_rfl
theorem En.partsE (a : Addr) (w : World) : (ReflectliteValue.parts (.agg #[.pointer (some ⟨5, 24, none⟩), .pointer (some a), .int .u64 130])).run Tryd.prog w = .ok (some (24, a, 130)) w := by kernel_rfl
theorem En.directE (w : World) : (Rtype.directlyAssignable 24 24).run Tryd.prog w = .ok true w := by kernel_rfl
theorem En.setE (ta b : Addr) (z : Int) (old : Value) (W : World) (hb : W.cell? b = some (.int .i64 z)) (ht : W.cell? ta = some old) (hf : W.frozen? ta = false) :
    (ReflectliteValue.set #[.agg #[.pointer (some ⟨5, 24, none⟩), .pointer (some ta), .int .u64 386], .agg #[.pointer (some ⟨5, 24, none⟩), .pointer (some b), .int .u64 130]]).run Tryd.prog W
      = .ok (.tuple #[]) (W.setCell ta (.int .i64 z)) := by
  show Sem.run Tryd.prog (ReflectliteValue.parts (.agg #[.pointer (some ⟨5, 24, none⟩), .pointer (some ta), .int .u64 386]) >>= fun p => ReflectliteValue.parts (.agg #[.pointer (some ⟨5, 24, none⟩), .pointer (some b), .int .u64 130]) >>= fun q => _) W = _
  simp only [Sem.run_bind, En.partsEa, En.partsE, Result.andThen]
  simp [ReflectliteValue.flagAddr, loadVar, isAgg, underlying, Tryd.underlying24, hb, Result.andThen, En.directE, storeVar, Value.cells, storeCells, Addr.add]
  rw [run_store Tryd.prog W ta _ _ (by rfl)]
  simp [ht, hf]
set_option maxHeartbeats 4000000 in
theorem En.as_hit (z : Int) (t : Addr) (old : Value) (w : World) (hg : w.cell? ⟨0, 0, none⟩ = some (.iface 160 (.agg #[.pointer (some ⟨5, 31, none⟩)]))) (ht0 : w.cell? t = some old) (hf0 : w.frozen? t = false) :
    Calls Tryd.prog 43 #[.iface 24 (.int .i64 z), .iface 86 (.pointer (some t))] w fun ev w' => ev = .returned (.bool true) ∧ w' = ((((w.alloc (.cells #[.pointer (some t)] 86)).alloc (.cells #[.pointer (some ⟨5, 86, none⟩), .pointer (some ⟨w.heap.size, 0, none⟩), .int .u64 150] 125)).alloc (.cells #[.pointer (some ⟨5, 86, none⟩), .pointer (some ⟨w.heap.size, 0, none⟩), .int .u64 150] 125)).alloc (.cells #[.int .i64 z] 24)).setCell t (.int .i64 z) := by
  have h6 := @run_callFunc_extern Tryd.prog 85 _ (fun args => ReflectliteValue.unpack (args.getD 0 (.tuple #[]))) Tryd.func85 (by kernel_rfl) (by kernel_rfl) (by kernel_rfl) (by kernel_rfl)
  have h7 := @run_callFunc_extern Tryd.prog 86 _ (ReflectliteValue.methodAny (ReflectliteValue.valueError "reflectlite.Value.Type" 0) (fun t _ _ _ => ReflectliteType.toType t)) Tryd.func86 (by kernel_rfl) (by kernel_rfl) (by kernel_rfl) (by kernel_rfl)
  have h8 := @run_callFunc_extern Tryd.prog 87 _ (ReflectliteValue.method (ReflectliteValue.valueError "reflectlite.Value.IsNil" 0) ReflectliteValue.isNil) Tryd.func87 (by kernel_rfl) (by kernel_rfl) (by kernel_rfl) (by kernel_rfl)
  have h27 := @run_callFunc_extern Tryd.prog 210 _ (ReflectliteType.abiMethod fun t => do pure (.int .u8 (← Rtype.kind t))) Tryd.func210 (by kernel_rfl) (by kernel_rfl) (by kernel_rfl) (by kernel_rfl)
  have h37 := @run_callFunc_extern Tryd.prog 223 _ (ReflectliteType.method ReflectliteType.elem) Tryd.func223 (by kernel_rfl) (by kernel_rfl) (by kernel_rfl) (by kernel_rfl)
  have h38 := @run_callFunc_extern Tryd.prog 224 _ (ReflectliteType.relation "Implements" ReflectliteType.implements_) Tryd.func224 (by kernel_rfl) (by kernel_rfl) (by kernel_rfl) (by kernel_rfl)
  have h10 := @run_callFunc_extern Tryd.prog 124 _ ReflectliteType.typeOf Tryd.func124 (by kernel_rfl) (by kernel_rfl) (by kernel_rfl) (by kernel_rfl)
  have h35 := @run_callFunc_extern Tryd.prog 221 _ (ReflectliteType.relation "AssignableTo" ReflectliteType.assignableTo) Tryd.func221 (by kernel_rfl) (by kernel_rfl) (by kernel_rfl) (by kernel_rfl)
  have h11 := @run_callFunc_extern Tryd.prog 125 _ (ReflectliteValue.method (ReflectliteValue.valueError "reflectlite.Value.Elem" 0) ReflectliteValue.elem) Tryd.func125 (by kernel_rfl) (by kernel_rfl) (by kernel_rfl) (by kernel_rfl)
  have h12 := @run_callFunc_extern Tryd.prog 126 _ ReflectliteValue.set Tryd.func126 (by kernel_rfl) (by kernel_rfl) (by kernel_rfl) (by kernel_rfl)
  have tO := En.typeOfE
  have mA := mAssignableTo
  have a25 := En.assignableE
  have v25 := En.valueOfE
  have f6 := En.valueOfP
  have f7 := En.typeP
  have mK := mKind
  have mE := mElem
  have mI := mImplements
  have k27 := En.kindP
  have k25 := En.kindE
  have e27 := En.elemP
  have i25 := En.implementsE
  have n8 := En.isNilP ⟨w.heap.size, 0, none⟩ t ((w.alloc (.cells #[.pointer (some t)] 86)).alloc (.cells #[.pointer (some ⟨5, 86, none⟩), .pointer (some ⟨w.heap.size, 0, none⟩), .int .u64 150] 125)) (by simp)
  have hlt : 0 < w.heap.size := by
    rcases Nat.lt_or_ge 0 w.heap.size with h | h
    · exact h
    · simp [World.cell?, Array.getElem?_eq_none h] at hg
  have hg2 : ((w.alloc (.cells #[.pointer (some t)] 86)).alloc (.cells #[.pointer (some ⟨5, 86, none⟩), .pointer (some ⟨w.heap.size, 0, none⟩), .int .u64 150] 125)).cell? ⟨0, 0, none⟩ = some (.iface 160 (.agg #[.pointer (some ⟨5, 31, none⟩)])) := by
    rw [World.cell?_alloc_lt _ _ ⟨0, 0, none⟩ (by simp <;> omega), World.cell?_alloc_lt _ _ ⟨0, 0, none⟩ hlt]; exact hg
  have htl : t.block < w.heap.size := by
    rcases Nat.lt_or_ge t.block w.heap.size with h | h
    · exact h
    · simp [World.cell?, Array.getElem?_eq_none h] at ht0
  have el := En.elemVP ⟨w.heap.size, 0, none⟩ t (((w.alloc (.cells #[.pointer (some t)] 86)).alloc (.cells #[.pointer (some ⟨5, 86, none⟩), .pointer (some ⟨w.heap.size, 0, none⟩), .int .u64 150] 125)).alloc (.cells #[.pointer (some ⟨5, 86, none⟩), .pointer (some ⟨w.heap.size, 0, none⟩), .int .u64 150] 125)) (by rw [World.cell?_alloc_lt _ _ ⟨w.heap.size, 0, none⟩ (by simp; omega)]; simp)
  have st := En.setE t ⟨w.heap.size + 1 + 1 + 1, 0, none⟩ z old ((((w.alloc (.cells #[.pointer (some t)] 86)).alloc (.cells #[.pointer (some ⟨5, 86, none⟩), .pointer (some ⟨w.heap.size, 0, none⟩), .int .u64 150] 125)).alloc (.cells #[.pointer (some ⟨5, 86, none⟩), .pointer (some ⟨w.heap.size, 0, none⟩), .int .u64 150] 125)).alloc (.cells #[.int .i64 z] 24))
    (by rw [World.cell?_alloc_at _ _ _ _ (by simp)]; rfl)
    (by rw [World.cell?_alloc_lt _ _ t (by simp; omega), World.cell?_alloc_lt _ _ t (by simp; omega), World.cell?_alloc_lt _ _ t (by simp; omega), World.cell?_alloc_lt _ _ t htl]; exact ht0)
    (by rw [World.frozen?_alloc_old _ _ t (by simp; omega), World.frozen?_alloc_old _ _ t (by simp; omega), World.frozen?_alloc_old _ _ t (by simp; omega), World.frozen?_alloc_old _ _ t (Nat.ne_of_lt htl)]; exact hf0)
  go_enter Tryd.func43, Tryd.ntmps43
  go_wp2
  refine wp_loop_rounds 1 ?_
  rw [rounds_succ]
  go_wp2
  go_ret
  exact ⟨rfl, rfl⟩
end Go.Proofs.YtgiojkhmkeocfaaDoor.Es

/- The law's Seen, walked: which fault an error is. -/
namespace Go.Proofs.YtgiojkhmkeocfaaDoor
open Go.RowKit

/-- what errors.errorType holds -/
def ErrT (w : World) : Prop := w.cell? ⟨0, 0, none⟩ = some (.iface 160 (.agg #[.pointer (some ⟨5, 31, none⟩)]))
theorem ErrT.lt {w : World} (h : ErrT w) : 0 < w.heap.size := World.block_lt_of_cell? w _ h
theorem ErrT.low {w u : World} {N : Nat} (h : ErrT w) (hb : Below N w u) (hN : w.heap.size ≤ N) : ErrT u := (World.cell?_of_block (w := w) (hb.block _ (Nat.lt_of_lt_of_le h.lt hN))).trans h
theorem grown_alc {w u : World} {r : Option Nat} (h : w.grownBy u r) (o : Obj) : w.grownBy (u.alloc o) r := grown_two h (World.grownBy_alloc u o r)
theorem as_fault (g b : Nat) (old : Value) (w : World) (hE : ErrT w) (hb : w.heap[b]? = some (.cells #[old] 74)) :
    Calls Tryd.prog 43 #[.iface 74 (.pointer (some ⟨g, 0, none⟩)), .iface 85 (.pointer (some ⟨b, 0, none⟩))] w fun e w' => e = .returned (.bool true) ∧ w'.heap[b]? = some (.cells #[.pointer (some ⟨g, 0, none⟩)] 74) ∧ w.grownBy w' (some b) := by
  refine (Es.Ef.as_hit ⟨g, 0, none⟩ ⟨b, 0, none⟩ old w hE (by rw [Lib.cell_of_heap hb]; rfl) (Lib.frozen_of_heap hb 0)).mono ?_
  rintro e w' ⟨rfl, rfl⟩
  have hl := (Array.getElem?_eq_some_iff.1 hb).1
  refine ⟨rfl, ?_, grown_two (grown_alc (grown_alc (grown_alc (World.grownBy_alloc w _ _) _) _) _) (grown_set _ b 0 _)⟩
  refine (heap_setCell_same _ b 0 #[old] _ _ ?_).trans rfl
  rw [Lib.alloc_old _ _ _ (by simp; omega), Lib.alloc_old _ _ _ (by simp; omega), Lib.alloc_old _ _ _ (by simp; omega), Lib.alloc_old _ _ _ hl]
  exact hb
theorem as_errno (z : Int) (b : Nat) (old : Value) (w : World) (hE : ErrT w) (hb : w.heap[b]? = some (.cells #[old] 24)) :
    Calls Tryd.prog 43 #[.iface 24 (.int .i64 z), .iface 86 (.pointer (some ⟨b, 0, none⟩))] w fun e w' => e = .returned (.bool true) ∧ w'.heap[b]? = some (.cells #[.int .i64 z] 24) ∧ w.grownBy w' (some b) := by
  refine (Es.En.as_hit z ⟨b, 0, none⟩ old w hE (by rw [Lib.cell_of_heap hb]; rfl) (Lib.frozen_of_heap hb 0)).mono ?_
  rintro e w' ⟨rfl, rfl⟩
  have hl := (Array.getElem?_eq_some_iff.1 hb).1
  refine ⟨rfl, ?_, grown_two (grown_alc (grown_alc (grown_alc (World.grownBy_alloc w _ _) _) _) _) (grown_set _ b 0 _)⟩
  refine (heap_setCell_same _ b 0 #[old] _ _ ?_).trans rfl
  rw [Lib.alloc_old _ _ _ (by simp; omega), Lib.alloc_old _ _ _ (by simp; omega), Lib.alloc_old _ _ _ (by simp; omega), Lib.alloc_old _ _ _ hl]
  exact hb
/-- a place and an error, in a box -/
def fvO (a z : Int) : Obj := .cells #[.int .i64 a, .int .i64 z] 35
set_option maxHeartbeats 2000000 in
theorem seen_nil (w : World) : Calls Tryd.prog 13 #[.nilIface] w fun e w' => e = .returned (.agg #[.int .i64 0, .int .i64 0]) ∧ Below w.heap.size w w' := by
  have hb : Below w.heap.size w (w.alloc (fvO 0 0)) := (Below.refl _ w).alloc (Nat.le_refl _) _
  have ha := heap_alloc_new w (fvO 0 0)
  unfold fvO at hb ha
  go_enter Tryd.func13, Tryd.ntmps13
  go_wp2
  exact bodyPost_ret (v := .agg #[.int .i64 0, .int .i64 0]) (results_cell_row rfl _ _ w.heap.size 35 #[.int .i64 0, .int .i64 0] (0, 0) _ rfl (by first | exact ha | (simp [ha]; done)) Tryd.underlying35 rfl (by kernel_rfl)) rfl ⟨rfl, hb⟩
set_option maxHeartbeats 4000000 in
theorem seen_flt (g : Nat) (a z : Int) (w : World) (hE : ErrT w) (hg : w.heap[g]? = some (fltO a z)) : Calls Tryd.prog 13 #[.iface 74 (.pointer (some ⟨g, 0, none⟩))] w fun e w' => e = .returned (.agg #[.int .i64 a, .int .i64 z]) ∧ Below w.heap.size w w' := by
  have hgl := (Array.getElem?_eq_some_iff.1 hg).1
  have z1 : (w.alloc (fvO 0 0)).heap.size = w.heap.size + 1 := by simp
  have z2 : ((w.alloc (fvO 0 0)).alloc (.cells #[.pointer none] 74)).heap.size = w.heap.size + 1 + 1 := by simp
  have a0 := heap_alloc_new w (fvO 0 0)
  have a1 := heap_alloc_new (w.alloc (fvO 0 0)) (.cells #[.pointer none] 74)
  have a2 := heap_alloc_new ((w.alloc (fvO 0 0)).alloc (.cells #[.pointer none] 74)) (.cells #[.int .i64 0] 24)
  rw [z1] at a1
  rw [z2] at a2
  have hb1 : Below w.heap.size w (w.alloc (fvO 0 0)) := (Below.refl _ w).alloc (Nat.le_refl _) _
  have hb2 := hb1.alloc hb1.size (.cells #[.pointer none] 74)
  have hb3 := hb2.alloc hb2.size (.cells #[.int .i64 0] 24)
  have e1 := (Lib.alloc_old _ (.cells #[.int .i64 0] 24) _ (by rw [z2]; omega)).trans a1
  have e0 := (Lib.alloc_old _ (.cells #[.int .i64 0] 24) _ (by rw [z2]; omega)).trans ((Lib.alloc_old _ (.cells #[.pointer none] 74) _ (by rw [z1]; omega)).trans a0)
  have hg3 := (hb3.block g hgl).trans hg
  have hE3 := hE.low hb3 (Nat.le_refl _)
  have hW : ((w.alloc (.cells #[.int .i64 0, .int .i64 0] 35)).alloc (.cells #[.pointer none] 74)).alloc (.cells #[.int .i64 0] 24) = ((w.alloc (fvO 0 0)).alloc (.cells #[.pointer none] 74)).alloc (.cells #[.int .i64 0] 24) := rfl
  have hEl : 0 < w.heap.size := hE.lt
  clear hb1 hb2 a0 a1 z1 z2 hE hg
  go_enter Tryd.func13, Tryd.ntmps13
  go_wp2_with fail
  clear hW
  generalize ((w.alloc (fvO 0 0)).alloc (.cells #[.pointer none] 74)).alloc (.cells #[.int .i64 0] 24) = W at *
  refine (as_fault g (w.heap.size + 1) (.pointer none) W hE3 e1).mono ?_
  rintro e W1 ⟨rfl, e1', hgr⟩
  have kp : ∀ (k : Nat) (x : Obj), k ≠ w.heap.size + 1 → W.heap[k]? = some x → W1.heap[k]? = some x := fun k x hk hx => (hgr.block k (Array.getElem?_eq_some_iff.1 hx).1 (fun e => hk (Option.some.inj e))).trans hx
  have i0 := kp _ _ (by omega) e0
  have i2 := kp _ _ (by omega) a2
  have ig := kp _ _ (by omega) hg3
  have hb4 := hb3.grown hgr hb3.size (fun k e => by cases e; omega)
  have hE4 : ErrT W1 := (World.cell?_of_block (w := W) (hgr.block _ hE3.lt (fun e => by have h1 : 0 = w.heap.size + 1 := Option.some.inj e; omega))).trans hE3
  have c1 : W1.cell? ⟨w.heap.size + 1, 0, none⟩ = some (.pointer (some ⟨g, 0, none⟩)) := by rw [Lib.cell_of_heap e1']; rfl
  have cg1 : W1.cell? ⟨g, 1, none⟩ = some (.iface 24 (.int .i64 z)) := by unfold fltO at ig; rw [Lib.cell_of_heap ig]; rfl
  clear kp e0 e1 a2 hg3 hb3 hE3 hgr
  go_wp2_with fail
  clear c1 cg1
  refine (as_errno z (w.heap.size + 1 + 1) (.int .i64 0) W1 hE4 i2).mono ?_
  rintro e W2 ⟨rfl, i2', hgr⟩
  have kp : ∀ (k : Nat) (x : Obj), k ≠ w.heap.size + 1 + 1 → W1.heap[k]? = some x → W2.heap[k]? = some x := fun k x hk hx => (hgr.block k (Array.getElem?_eq_some_iff.1 hx).1 (fun e => hk (Option.some.inj e))).trans hx
  have j0 := kp _ _ (by omega) i0
  have j1 := kp _ _ (by omega) e1'
  have jg := kp _ _ (by omega) ig
  have hb5 := hb4.grown hgr hb4.size (fun k e => by cases e; omega)
  have s0 := heap_setCell_same W2 w.heap.size 0 _ _ (.int .i64 a) j0
  have s1 := heap_setCell_same _ w.heap.size 1 _ _ (.int .i64 z) s0
  have hb6 : Below w.heap.size w ((W2.setCell ⟨w.heap.size, 0, none⟩ (.int .i64 a)).setCell ⟨w.heap.size, 1, none⟩ (.int .i64 z)) := (hb5.setCell (Nat.le_refl _) _).setCell (Nat.le_refl _) _
  have c1 : W2.cell? ⟨w.heap.size + 1, 0, none⟩ = some (.pointer (some ⟨g, 0, none⟩)) := by rw [Lib.cell_of_heap j1]; rfl
  have c2 : W2.cell? ⟨w.heap.size + 1 + 1, 0, none⟩ = some (.int .i64 z) := by rw [Lib.cell_of_heap i2']; rfl
  have cg0 : W2.cell? ⟨g, 0, none⟩ = some (.int .i64 a) := by unfold fltO at jg; rw [Lib.cell_of_heap jg]; rfl
  have t0 : W2.cell? ⟨w.heap.size, 0, none⟩ = some (.int .i64 0) := by unfold fvO at j0; rw [Lib.cell_of_heap j0]; rfl
  have t1 : W2.cell? ⟨w.heap.size, 1, none⟩ = some (.int .i64 0) := by unfold fvO at j0; rw [Lib.cell_of_heap j0]; rfl
  have t2 := Lib.frozen_of_heap j0 0
  have t3 := Lib.frozen_of_heap j0 1
  clear kp i0 e1' ig hb4 hE4 i2 i2' hgr j0 j1 jg hb5 s0
  go_wp2_with fail
  go_region
  have s2 : ((W2.setCell ⟨w.heap.size, 0, none⟩ (.int .i64 a)).setCell ⟨w.heap.size, 1, none⟩ (.int .i64 z)).drew.heap[w.heap.size]? = some (.cells #[.int .i64 a, .int .i64 z] 35) := s1
  have hb7 := hb6.drew
  clear s1 hb6 c1 c2 cg0 t0 t1 t2 t3
  generalize ((W2.setCell ⟨w.heap.size, 0, none⟩ (.int .i64 a)).setCell ⟨w.heap.size, 1, none⟩ (.int .i64 z)).drew = W3 at *
  go_wp2
  exact bodyPost_ret (v := .agg #[.int .i64 a, .int .i64 z]) (results_cell_row rfl _ _ w.heap.size 35 #[.int .i64 a, .int .i64 z] (0, 0) _ rfl s2 Tryd.underlying35 rfl (by kernel_rfl)) rfl ⟨rfl, hb7⟩
end Go.Proofs.YtgiojkhmkeocfaaDoor

/- What is read is no longer than what it was read of; both Parses, and Seen, said in one way. -/
namespace Go.Proofs.YtgiojkhmkeocfaaDoor
open Go.RowKit

def Sh (M : Nat) (ls : List (List UInt8)) : Prop := ∀ s ∈ ls, s.length ≤ M
theorem nxt_sh {M p : Nat} {ls r : List (List UInt8)} {s : List UInt8} (hs : Sh M ls) (h : nxt p ls = .ok (s, r)) : s.length ≤ M ∧ Sh M r := by
  have h1 := nxt_ok h
  subst h1
  have h2 := hs (s ++ [10]) (by simp)
  rw [List.length_append] at h2
  exact ⟨by omega, fun y hy => hs y (by simp [hy])⟩
theorem mkd_sh {M p p1 : Nat} {sg : List UInt8} {last : Bool} {ls r : List (List UInt8)} {t : List UInt8} (hs : Sh M ls) (h : mkd sg last p ls = .ok (t, p1, r)) : t.length ≤ M + 1 ∧ Sh M r := by
  unfold mkd at h
  split at h
  · cases h
  · rename_i s r0 hn
    obtain ⟨h1, h2⟩ := nxt_sh hs hn
    split at h
    · split at h
      · split at h
        · cases h
        · cases h
          exact ⟨by rw [List.length_drop]; omega, fun y hy => h2 y (List.mem_of_mem_tail hy)⟩
      · cases h
        exact ⟨by rw [List.length_append, List.length_drop]; simp; omega, h2⟩
    · cases h
theorem rdN_sh {M : Nat} {sg : List UInt8} {S : Int} (n : Nat) : ∀ {p p1 : Nat} {ls r : List (List UInt8)} {l : List Mk}, Sh M ls → rdN sg S n p ls = .ok (l, p1, r) → (∀ m ∈ l, m.tx.length ≤ M + 1) ∧ Sh M r := by
  induction n with
  | zero =>
    intro p p1 ls r l hs h
    cases h
    exact ⟨fun m hm => (by cases hm), hs⟩
  | succ n ih =>
    intro p p1 ls r l hs h
    simp only [rdN] at h
    split at h
    · cases h
    · rename_i t q r1 hm
      obtain ⟨h1, h2⟩ := mkd_sh hs hm
      split at h
      · cases h
      · rename_i l2 p2 r2 hr
        obtain ⟨h3, h4⟩ := ih h2 hr
        cases h
        refine ⟨fun m hm => ?_, h4⟩
        rcases List.mem_cons.1 hm with rfl | hm
        · exact h1
        · exact h3 m hm
theorem hkP_sh {M k p p1 : Nat} {ls r : List (List UInt8)} {h : Hk} (hs : Sh M ls) (hh : hkP k p ls = .ok (h, p1, r)) : (∀ m ∈ h.ls, m.tx.length ≤ M + 1) ∧ Sh M r := by
  unfold hkP at hh
  split at hh
  · cases hh
  · rename_i s r0 hn
    obtain ⟨_, h2⟩ := nxt_sh hs hn
    split at hh
    · cases hh
    · split at hh
      · cases hh
      · split at hh
        · cases hh
        · rename_i l1 q1 r1 hr1
          obtain ⟨h3, h4⟩ := rdN_sh _ h2 hr1
          split at hh
          · cases hh
          · rename_i q2 r2 hse
            have h5 : Sh M r2 := (by
              split at hse
              · unfold sepP at hse
                split at hse
                · cases hse
                · rename_i s2 r3 hn2
                  obtain ⟨_, h6⟩ := nxt_sh h4 hn2
                  split at hse
                  · cases hse
                    exact h6
                  · cases hse
              · cases hse
                exact h4)
            split at hh
            · cases hh
            · rename_i l2 q3 r3 hr2
              obtain ⟨h6, h7⟩ := rdN_sh _ h5 hr2
              cases hh
              refine ⟨fun m hm => ?_, h7⟩
              rcases List.mem_append.1 hm with hm | hm
              · exact h3 m hm
              · exact h6 m hm
theorem hksP_sh {M : Nat} (f : Nat) : ∀ {k p : Nat} {ls : List (List UInt8)} {l : List Hk}, Sh M ls → hksP f k p ls = .ok l → ∀ x ∈ l, ∀ m ∈ x.ls, m.tx.length ≤ M + 1 := by
  induction f with
  | zero =>
    intro k p ls l _ h
    cases h
    intro x hx
    cases hx
  | succ f ih =>
    intro k p ls l hs h
    simp only [hksP] at h
    split at h
    · cases h
      intro x hx
      cases hx
    · split at h
      · cases h
      · rename_i h1 p1 r hk
        obtain ⟨h2, h3⟩ := hkP_sh hs hk
        split at h
        · cases h
        · rename_i l2 hr
          have h4 := ih h3 hr
          cases h
          intro x hx
          rcases List.mem_cons.1 hx with rfl | hx
          · exact h2
          · exact h4 x hx
/-- what is read, and its fault -/
def okL (X : Except (Nat × Int) (List Hk)) : List Hk := match X with
  | .error _ => []
  | .ok l => l
def faL (X : Except (Nat × Int) (List Hk)) : Int × Int := match X with
  | .error (a, z) => ((a : Int), z)
  | .ok _ => (0, 0)
theorem okL_facts {t : List UInt8} {X : Except (Nat × Int) (List Hk)} (h : prsT t = X) {P : List (Hk × Value)} (hP : P.map (·.1) = okL X) : HOk P ∧ ∀ x ∈ P, chkH x.1 = 0 := by
  cases X with
  | error e =>
    simp only [okL, List.map_eq_nil_iff] at hP
    subst hP
    exact ⟨⟨by simp, fun x hx => by cases hx⟩, fun x hx => by cases hx⟩
  | ok l =>
    simp only [okL] at hP
    subst hP
    have h1 := prs_few h
    have h2 := prs_right h
    have ht : t.length ≤ 1048576 := (by
      unfold prsT at h
      split at h
      · cases h
      · omega)
    have h3 : ∀ x ∈ P.map (·.1), ∀ m ∈ x.ls, m.tx.length ≤ 1048576 + 1 := (by
      unfold prsT at h
      split at h
      · cases h
      · exact hksP_sh _ (split_short ht) h)
    rw [List.length_map] at h1
    exact ⟨⟨by omega, fun x hx => ⟨by have := h1.2 _ (List.mem_map_of_mem hx); omega, fun m hm => by have := h3 _ (List.mem_map_of_mem hx) m hm; omega⟩⟩, fun x hx => h2 _ (List.mem_map_of_mem hx)⟩
theorem nPars_u (t : List UInt8) (w : World) (hl : t.length ≤ 1099511627776) (X : Except (Nat × Int) (List Hk)) (HX : Hid (prsT t = X)) :
    Calls Tryd.prog 11 #[.string ⟨t.toArray⟩] w fun e w' => ∃ o c P ev, e = .returned (.tuple #[.slice o P.length c, ev]) ∧ Hs w (.slice o P.length c) P w' ∧ P.map (·.1) = okL X ∧ ∀ u : World, Below w'.heap.size w' u → ErrT u → Calls Tryd.prog 13 #[ev] u fun e u' => e = .returned (.agg #[.int .i64 (faL X).1, .int .i64 (faL X).2]) ∧ Below u.heap.size u u' := by
  refine (nPars_f t w hl X HX).mono ?_
  intro e w' hq
  cases X with
  | error z =>
    obtain ⟨a, z⟩ := z
    obtain ⟨g, rfl, hg, hb⟩ := hq
    refine ⟨none, 0, [], _, rfl, ⟨hb, hnil_row _ _ _ _, fun x hx => by cases hx⟩, rfl, fun u hu hE => seen_flt g (a : Int) z u hE ((hu.block g (Array.getElem?_eq_some_iff.1 hg).1).trans hg)⟩
  | ok l =>
    obtain ⟨v, P, rfl, hP, hPm⟩ := hq
    obtain ⟨o, c, rfl⟩ := (holds_of hP.own).form
    exact ⟨o, c, P, _, rfl, hP, hPm, fun u _ _ => seen_nil u⟩
theorem rNPars_u (t : List UInt8) (w : World) (hl : t.length ≤ 1099511627776) (X : Except (Nat × Int) (List Hk)) (HX : Hid (prsT t = X)) :
    Calls Tryd.prog 12 #[.string ⟨t.toArray⟩] w fun e w' => ∃ o c P, e = .returned (.tuple #[.slice o P.length c, .agg #[.int .i64 (faL X).1, .int .i64 (faL X).2]]) ∧ Hs w (.slice o P.length c) P w' ∧ P.map (·.1) = okL X := by
  refine (rNPars_f t w hl X HX).mono ?_
  intro e w' hq
  cases X with
  | error z =>
    obtain ⟨a, z⟩ := z
    obtain ⟨rfl, hb⟩ := hq
    exact ⟨none, 0, [], rfl, ⟨hb, hnil_row _ _ _ _, fun x hx => by cases hx⟩, rfl⟩
  | ok l =>
    obtain ⟨v, P, rfl, hP, hPm⟩ := hq
    obtain ⟨o, c, rfl⟩ := (holds_of hP.own).form
    exact ⟨o, c, P, rfl, hP, hPm⟩
end Go.Proofs.YtgiojkhmkeocfaaDoor

/- Check of layer lines, walked at rows of texts; slices.ContainsFunc, walked at lines with signs. -/
namespace Go.Proofs.YtgiojkhmkeocfaaDoor
open Ln Go.RowKit

set_option maxHeartbeats 1000000 in
theorem isLine_any (l : List UInt8) (last : Bool) (w : World) (hl : l.length ≤ 1099511627776) (r : Bool) (HR : Hid (lineB l last = r)) :
    Calls Tryd.prog 90 #[.string ⟨l.toArray⟩, .bool last] w fun e w' => e = .returned (.bool r) ∧ w = w' := by
  rcases Int.lt_or_le (Lib.indexByte l 10) 0 with hq | hq
  · obtain ⟨q1, q2⟩ := index_none hq
    have HE : Hid ((last && !l.isEmpty) = r) := (by show _ = _; rw [← HR.out]; exact (lineB_all q2 last).symm)
    clear hq q2 HR
    go_enter Tryd.func90, Tryd.ntmps90
    go_wp2_with fail
    refine (Tryd.strings_Index_one ⟨l.toArray⟩ 10 _).mono ?_
    rintro e w1 ⟨rfl, rfl⟩
    have hi2 : Lib.indexByte (⟨l.toArray⟩ : ByteArray).data.toList 10 = -1 := q1
    rw [hi2]
    cases last with
    | false =>
      go_wp2
      go_ret
      rw [← HE.out]
      exact ⟨rfl, rfl⟩
    | true =>
      cases l with
      | nil =>
        go_wp2
        go_ret
        rw [← HE.out]
        exact ⟨rfl, rfl⟩
      | cons c t =>
        go_wp2
        go_ret
        rw [← HE.out]
        exact ⟨rfl, rfl⟩
  · obtain ⟨a, b, he, hn, hi⟩ := index_some hq
    have HE : Hid (b.isEmpty = r) := (by
      show _ = _
      rw [← HR.out, he]
      exact (lineB_cut hn last).symm)
    have hlen : l.length = a.length + 1 + b.length := by rw [he]; simp; omega
    clear hn hq he HR
    go_enter Tryd.func90, Tryd.ntmps90
    go_wp2_with fail
    refine (Tryd.strings_Index_one ⟨l.toArray⟩ 10 _).mono ?_
    rintro e w1 ⟨rfl, rfl⟩
    have hi2 : Lib.indexByte (⟨l.toArray⟩ : ByteArray).data.toList 10 = a.length := hi
    rw [hi2]
    cases b with
    | nil =>
      have hb : ((a.length : Int) == (l.length : Int) - 1) = true := by simp at hlen; simp; omega
      clear hlen
      go_wp2
      go_ret
      rw [← HE.out]
      exact ⟨rfl, rfl⟩
    | cons c t =>
      have hb : ((a.length : Int) == (l.length : Int) - 1) = false := by simp at hlen; rw [beq_eq_false_iff_ne]; omega
      clear hlen
      go_wp2
      go_ret
      rw [← HE.out]
      exact ⟨rfl, rfl⟩

set_option maxHeartbeats 1000000 in
theorem hlCheck_f (v : Value) (ws : List (List UInt8)) (w : World) (hl : ws.length ≤ 1099511627776) (he : ∀ a ∈ ws, a.length ≤ 1099511627776) (hv : HS w v ws) (r : Bool) (HR : Hid (checkB ws = r)) (z : Int) (HZ : Hid (z = if r = true then 0 else 6)) :
    Calls Tryd.prog 48 #[v] w fun e w' => e = .returned (.int .i64 z) ∧ w = w' := by
  obtain ⟨ao, c, rfl⟩ := Holds.form hv
  have HL : Hid (∀ a ∈ ws, a.length ≤ 1099511627776) := he
  clear he
  go_enter Tryd.func48, Tryd.ntmps48
  go_wp2
  go_loopw [3, 4, 7] (fun _ _ i wr => ∃ k : Nat, k ≤ ws.length ∧ i = .int .i64 k ∧ wr = w ∧ Hid (checkB (ws.drop k) = r)) (fun _ _ i _ => ws.length - (intOf i).toNat)
  case atStart => exact ⟨0, Nat.zero_le _, rfl, rfl, HR⟩
  case round =>
    obtain ⟨k, hk, rfl, rfl, HI⟩ := hrel
    clear HR
    by_cases hlt : k < ws.length
    · obtain ⟨b, off, rfl, _, hc⟩ := HS.at hv (by omega)
      have d1 := hc k hlt
      have hxl := HL.out ws[k] (List.getElem_mem hlt)
      have i1 : 0 ≤ (k : Int) := by omega
      have i2 : (k : Int) < (ws.length : Int) := by omega
      have HM : (ws.drop (k + 1)).isEmpty = ((k : Int) == (ws.length : Int) - 1) := by
        rw [Bool.eq_iff_iff, List.isEmpty_iff, List.drop_eq_nil_iff, beq_iff_eq]; omega
      have HD : Hid ((lineB ws[k] (ws.drop (k + 1)).isEmpty && checkB (ws.drop (k + 1))) = r) := (by
        have h := HI.out
        rw [List.drop_eq_getElem_cons hlt] at h
        exact h)
      rw [HM] at HD
      generalize hq : ((k : Int) == (ws.length : Int) - 1) = q at *
      generalize ws[k] = x at *
      obtain ⟨r1, hr1⟩ : ∃ r1, lineB x q = r1 := ⟨_, rfl⟩
      have HR1 : Hid (lineB x q = r1) := hr1
      rw [hr1] at HD
      clear hr1 HI HM hc
      go_wp2_with fail
      refine (isLine_any x q _ hxl r1 HR1).mono ?_
      rintro e w1 ⟨rfl, rfl⟩
      cases r1 with
      | false =>
        have HZ2 : Hid (z = 6) := (by
          have h := HD.out
          rw [Bool.false_and] at h
          show _ = _
          rw [HZ.out, ← h]
          rfl)
        clear HZ
        go_wp2
        go_ret
        rw [HZ2.out]
        exact ⟨rfl, rfl⟩
      | true =>
        have HE : Hid (checkB (ws.drop (k + 1)) = r) := (by have h := HD.out; rw [Bool.true_and] at h; exact h)
        go_wp2
        go_roundw
        case rel => exact ⟨k + 1, by omega, by go_num, by trivial, HE⟩
        case measure => simp [intOf]; omega
    · have HZ2 : Hid (z = 0) := (by
        have h := HI.out
        rw [List.drop_of_length_le (by omega)] at h
        show _ = _
        rw [HZ.out, ← h]
        rfl)
      clear HZ HI
      have hend : decide ((k : Int) < (ws.length : Int)) = false := decide_eq_false (by omega)
      go_wp2
      go_ret
      rw [HZ2.out]
      exact ⟨rfl, rfl⟩

/-- slices.IndexFunc, slices.ContainsFunc: the function may lay blocks -/
theorem idx_any {l : List Mk} {p : Mk → Bool} {k : Nat} (hk : k < l.length) : (l.drop k).any p = (p l[k] || (l.drop (k + 1)).any p) := by
  rw [List.drop_eq_getElem_cons hk, List.any_cons]
set_option maxRecDepth 10000 in
set_option maxHeartbeats 2000000 in
theorem hIndexFunc_f (g : Nat) (l : List Mk) (p : Mk → Bool) (v : Value) (w : World) (hv : HMk w v l) (hl : l.length ≤ 1099511627776) (eg : ∀ args w, (callFunc g args).run Tryd.prog w = .ok (.enter g args) w)
    (hf : Hid (∀ m ∈ l, ∀ u : World, Calls Tryd.prog g (#[.agg #[.int .u8 m.sg, .string ⟨m.tx.toArray⟩]] ++ #[]) u fun e u' => e = .returned (.bool (p m)) ∧ Below u.heap.size u u')) (r : Bool) (HR : Hid (l.any p = r)) :
    Calls Tryd.prog 89 #[v, .func (.func g) #[] #[]] w fun e w' => ∃ z : Int, e = .returned (.int .i64 z) ∧ decide (0 ≤ z) = r ∧ Below w.heap.size w w' := by
  obtain ⟨lo, lc, rfl⟩ := HMk.form hv
  go_enter Tryd.func89, Tryd.ntmps89
  go_wp2
  go_loopw [5, 8] (fun _ i wr => ∃ k : Nat, k ≤ l.length ∧ i = .int .i64 k ∧ Below w.heap.size w wr ∧ Hid ((l.drop k).any p = r)) (fun _ i _ => l.length - (intOf i).toNat)
  case atStart => exact ⟨0, Nat.zero_le _, rfl, Below.refl _ _, HR⟩
  case round =>
    obtain ⟨k, hk, rfl, hB, HI⟩ := hrel
    clear HR
    by_cases hlt : k < l.length
    · obtain ⟨b, off, rfl, hb, _⟩ := HMk.at hv (by omega)
      obtain ⟨m, hm⟩ : ∃ m, l[k] = m := ⟨_, rfl⟩
      obtain ⟨c0, c1⟩ := Low.mk hB hv k hlt hm
      have hc := hf.out m (by rw [← hm]; exact List.getElem_mem hlt) wr
      have i1 : 0 ≤ (k : Int) := by omega
      have i2 : (k : Int) < (l.length : Int) := by omega
      have HI2 : Hid ((p m || (l.drop (k + 1)).any p) = r) := (by
        have h := HI.out
        rw [idx_any hlt, hm] at h
        exact h)
      obtain ⟨q, hq⟩ : ∃ q, p m = q := ⟨_, rfl⟩
      rw [hq] at hc HI2
      clear HI hm hq
      cases q with
      | true =>
        have HE : Hid (true = r) := (by have h := HI2.out; rw [Bool.true_or] at h; exact h)
        clear HI2
        go_wp2_with (go_at_fn g; refine hc.mono ?_; rintro e w' ⟨rfl, hB1⟩)
        go_ret
        exact ⟨_, rfl, by rw [← HE.out]; exact decide_eq_true (by omega), hB.trans (hB1.mono hB.size)⟩
      | false =>
        have HE : Hid ((l.drop (k + 1)).any p = r) := (by have h := HI2.out; rw [Bool.false_or] at h; exact h)
        clear HI2
        go_wp2_with (go_at_fn g; refine hc.mono ?_; rintro e w' ⟨rfl, hB1⟩)
        exact ⟨⟨k + 1, by omega, by go_num, hB.trans (hB1.mono hB.size), HE⟩, by simp [intOf]; omega⟩
    · have HE : Hid (false = r) := (by
        have h := HI.out
        rw [List.drop_of_length_le (by omega)] at h
        exact h)
      clear HI
      have hend : decide ((k : Int) < (l.length : Int)) = false := decide_eq_false (by omega)
      go_wp2
      go_ret
      exact ⟨_, rfl, HE.out, hB⟩
theorem hContains_f (g : Nat) (l : List Mk) (p : Mk → Bool) (v : Value) (w : World) (hv : HMk w v l) (hl : l.length ≤ 1099511627776) (eg : ∀ args w, (callFunc g args).run Tryd.prog w = .ok (.enter g args) w)
    (hf : Hid (∀ m ∈ l, ∀ u : World, Calls Tryd.prog g (#[.agg #[.int .u8 m.sg, .string ⟨m.tx.toArray⟩]] ++ #[]) u fun e u' => e = .returned (.bool (p m)) ∧ Below u.heap.size u u')) (r : Bool) (HR : Hid (l.any p = r)) :
    Calls Tryd.prog 46 #[v, .func (.func g) #[] #[]] w fun e w' => e = .returned (.bool r) ∧ Below w.heap.size w w' := by
  have HC := hIndexFunc_f g l p v w hv hl eg hf r HR
  obtain ⟨lo, lc, rfl⟩ := HMk.form hv
  go_enter Tryd.func46, Tryd.ntmps46
  go_wp2_with fail
  refine HC.mono ?_
  rintro e w1 ⟨z, rfl, hz, hB⟩
  go_wp2
  go_ret
  exact ⟨rfl, hB⟩
end Go.Proofs.YtgiojkhmkeocfaaDoor

/- The code's Check of layer 11, walked. -/
namespace Go.Proofs.YtgiojkhmkeocfaaDoor
open Ln Go.RowKit

theorem rng_nm (h : Hk) : rngB h = (nmB h.A h.AN && nmB h.B h.BN) := by
  unfold rngB nmB
  cases nat31 h.A <;> cases nat31 h.AN <;> cases nat31 h.B <;> cases nat31 h.BN <;> cases decide (h.A = 0) <;> cases decide (0 < h.AN) <;> cases decide (h.B = 0) <;> cases decide (0 < h.BN) <;> rfl
theorem pk_mem {no : Int} {l : List Mk} {a : List UInt8} (h : a ∈ pkL no l) : ∃ m ∈ l, m.tx = a := by
  induction l with
  | nil => cases h
  | cons m l ih =>
    simp only [pkL] at h
    split at h
    · rcases List.mem_cons.1 h with rfl | h
      · exact ⟨m, by simp, rfl⟩
      · obtain ⟨x, hx, e⟩ := ih h
        exact ⟨x, by simp [hx], e⟩
    · obtain ⟨x, hx, e⟩ := ih h
      exact ⟨x, by simp [hx], e⟩
theorem chk_rng {h : Hk} (hq : rngB h = false) : chkH h = 2 := by
  unfold chkH
  rw [if_pos hq]
theorem chk_fld {h : Hk} (h1 : rngB h = true) (hq : fldB h.ls = false) : chkH h = 6 := by
  unfold chkH
  rw [if_neg (by rw [h1]; decide), if_pos hq]
theorem chk_cnt {h : Hk} (h1 : rngB h = true) (h2 : fldB h.ls = true) (hq : h.AN ≠ (oldL h).length ∨ h.BN ≠ (newL h).length) : chkH h = 120 := by
  unfold chkH
  rw [if_neg (by rw [h1]; decide), if_neg (by rw [h2]; decide), if_pos hq]
theorem all_chg {l : List Mk} (ha : allB l = true) : l.all (fun m => decide (m.sg = 32)) = !l.any chgB := by
  induction l with
  | nil => rfl
  | cons m l ih =>
    simp only [allB, List.all_cons, Bool.and_eq_true] at ha
    simp only [List.all_cons, List.any_cons]
    rw [ih ha.2]
    have hm := ha.1
    simp only [okS, Bool.or_eq_true, decide_eq_true_eq] at hm
    unfold chgB
    rcases hm with (hm | hm) | hm <;> rw [hm] <;> simp
theorem chk_end {h : Hk} (h1 : rngB h = true) (h2 : fldB h.ls = true) (h3 : h.AN = (oldL h).length) (h4 : h.BN = (newL h).length) {q : Bool} (hq : h.ls.any chgB = q) : chkH h = if q = true then 0 else 50 := by
  unfold chkH
  rw [if_neg (by rw [h1]; decide), if_neg (by rw [h2]; decide), if_neg (fun k => by rcases k with k | k <;> contradiction)]
  have ha : allB h.ls = true := by
    have := fld_code h.ls
    rw [h2] at this
    simp only [Bool.true_eq, Bool.and_eq_true] at this
    exact this.1.1
  rw [all_chg ha, hq]
  cases q <;> rfl
theorem any_strange (l : List Mk) : l.any (fun m => !okS m.sg) = !allB l := by
  induction l with
  | nil => rfl
  | cons m l ih =>
    simp only [List.any_cons, allB, List.all_cons, Bool.not_and] at ih ⊢
    rw [ih]
theorem hold_held {h : Hk} {v : Value} {W u : World} (hv : HMk W v h.ls) (hl : h.ls.length ≤ 1099511627776) {R : List (List UInt8)} (HR : Hid (oldL h = R)) (hL : Low W u) : Calls Tryd.prog 32 (#[hkV h v] ++ #[]) u fun e w' => ∃ x, e = .returned x ∧ Low W w' ∧ (HS w' x R ∧ Below u.heap.size u w') := by
  refine (hOld_f h v u (HMk.keep hv hL (Nat.le_refl _)) hl R HR).mono ?_
  rintro e w' ⟨x, rfl, hx, hB⟩
  exact ⟨_, rfl, hL.trans (hB.mono hL.size), hx, hB⟩
theorem hnew_held {h : Hk} {v : Value} {W u : World} (hv : HMk W v h.ls) (hl : h.ls.length ≤ 1099511627776) {R : List (List UInt8)} (HR : Hid (newL h = R)) (hL : Low W u) : Calls Tryd.prog 34 (#[hkV h v] ++ #[]) u fun e w' => ∃ x, e = .returned x ∧ Low W w' ∧ (HS w' x R ∧ Below u.heap.size u w') := by
  refine (hNew_f h v u (HMk.keep hv hL (Nat.le_refl _)) hl R HR).mono ?_
  rintro e w' ⟨x, rfl, hx, hB⟩
  exact ⟨_, rfl, hL.trans (hB.mono hL.size), hx, hB⟩

set_option maxRecDepth 10000 in
set_option maxHeartbeats 4000000 in
theorem hCheck_f (h : Hk) (v : Value) (w : World) (hv : HMk w v h.ls) (hl : h.ls.length ≤ 1099511627776) (htx : ∀ m ∈ h.ls, m.tx.length ≤ 1099511627776) (r : Int) (HR : Hid (chkH h = r)) : Calls Tryd.prog 15 #[hkV h v] w fun e w' => e = .returned (.int .i64 r) ∧ Below w.heap.size w w' := by
  obtain ⟨A, AN, B, BN, ls⟩ := h
  dsimp only at hv hl htx
  obtain ⟨lo, lc, rfl⟩ := HMk.form hv
  have hx := Hx.new w ⟨A, AN, B, BN, ls⟩ (.slice lo ls.length lc)
  have hBl : Below w.heap.size w (w.alloc (hkO ⟨A, AN, B, BN, ls⟩ (.slice lo ls.length lc))) := (Below.refl _ w).alloc (Nat.le_refl _) _
  have hv1 := HMk.keep hv hBl (Nat.le_refl _)
  have HTX : Hid (∀ m ∈ ls, m.tx.length ≤ 1099511627776) := htx
  clear htx hv
  obtain ⟨x0, x1, x2, x3, x4⟩ := hx.cells
  unfold hkV
  dsimp only at x0 x1 x2 x3 x4 ⊢
  have hW0 : w.alloc (hkO ⟨A, AN, B, BN, ls⟩ (.slice lo ls.length lc)) = w.alloc (Obj.cells #[Value.int IntKind.i64 A, Value.int IntKind.i64 AN, Value.int IntKind.i64 B, Value.int IntKind.i64 BN, .slice lo ls.length lc] 43) := rfl
  generalize w.alloc (hkO ⟨A, AN, B, BN, ls⟩ (.slice lo ls.length lc)) = W at *
  have hW := hW0.symm
  clear hW0
  obtain ⟨p1, hp1⟩ : ∃ p, nmB A AN = p := ⟨_, rfl⟩
  obtain ⟨p2, hp2⟩ : ∃ p, nmB B BN = p := ⟨_, rfl⟩
  have HG : Hid (rngB ⟨A, AN, B, BN, ls⟩ = (p1 && p2)) := (by show _ = _; rw [rng_nm, ← hp1, ← hp2])
  have HP1 : Hid (nmB A AN = p1) := hp1
  have HP2 : Hid (nmB B BN = p2) := hp2
  clear hp1 hp2
  go_enter Tryd.func15, Tryd.ntmps15
  go_wp2_with fail
  refine (hnumbered_f A AN W p1 HP1).mono ?_
  rintro e w1 ⟨rfl, rfl⟩
  clear hW HP1
  cases p1 with
  | false =>
    have HE : Hid (2 = r) := (by show _ = _; rw [← HR.out, chk_rng (by rw [HG.out]; rfl)])
    clear HR HG
    go_wp2
    go_ret
    exact ⟨by rw [← HE.out]; rfl, hBl⟩
  | true =>
  go_wp2_with fail
  refine (hnumbered_f B BN w1 p2 HP2).mono ?_
  rintro e W ⟨rfl, rfl⟩
  clear HP2
  cases p2 with
  | false =>
    have HE : Hid (2 = r) := (by show _ = _; rw [← HR.out, chk_rng (by rw [HG.out]; rfl)])
    clear HR HG
    go_wp2
    go_ret
    exact ⟨by rw [← HE.out]; rfl, hBl⟩
  | true =>
    obtain ⟨RO, hRO⟩ : ∃ r, oldL ⟨A, AN, B, BN, ls⟩ = r := ⟨_, rfl⟩
    obtain ⟨RN, hRN⟩ : ∃ r, newL ⟨A, AN, B, BN, ls⟩ = r := ⟨_, rfl⟩
    have HO : Hid (oldL ⟨A, AN, B, BN, ls⟩ = RO) := hRO
    have HN : Hid (newL ⟨A, AN, B, BN, ls⟩ = RN) := hRN
    have HF : Hid (fldB ls = (allB ls && checkB RO && checkB RN)) := (by show _ = _; rw [← hRO, ← hRN]; exact fld_code ls)
    have hROl : RO.length ≤ 1099511627776 := by rw [← hRO]; have := pkL_length 43 ls; simp only [oldL]; omega
    have hRNl : RN.length ≤ 1099511627776 := by rw [← hRN]; have := pkL_length 45 ls; simp only [newL]; omega
    have HROm : Hid (∀ a ∈ RO, a.length ≤ 1099511627776) := (by
      intro a ha
      rw [← hRO] at ha
      obtain ⟨m, hm, rfl⟩ := pk_mem ha
      exact HTX.out m hm)
    have HRNm : Hid (∀ a ∈ RN, a.length ≤ 1099511627776) := (by
      intro a ha
      rw [← hRN] at ha
      obtain ⟨m, hm, rfl⟩ := pk_mem ha
      exact HTX.out m hm)
    clear hRO hRN HTX
    have hxx : ∀ u : World, Low W u → Hx u w.heap.size ⟨A, AN, B, BN, ls⟩ (.slice lo ls.length lc) := fun u hu => hx.low hu
    go_upto_region 3 with fail
    go_cut [3, 4] from 5 to 51 (fun a b wz => ∃ oo oc no nc, a = .slice oo RO.length oc ∧ b = .slice no RN.length nc ∧ HS wz a RO ∧ HS wz b RN ∧ Below W.heap.size W wz)
    case first =>
      have hlow : Low W (W.drewN 1) := Below.dN (Below.refl _ W) 1
      refine wp_region_noPanic ?_
      refine wp_region_held_drew (S := fun u => Low W u) (by kernel_rfl) hlow (fun hHeld => ?_)
      refine go_take 0 19 _ (hkV ⟨A, AN, B, BN, ls⟩ (.slice lo ls.length lc)) rfl (by kernel_rfl) (by kernel_rfl) (by kernel_rfl) (by kernel_rfl) (fun _ _ _ h => h) (Or.inl ⟨by kernel_rfl, fun u hu => load_hk (hxx u hu) (.tmp 1) (by kernel_rfl) (by kernel_rfl)⟩) hHeld ?_
      simp only [Act.put, List.setIfInBounds_toArray, List.set_cons_zero, List.set_cons_succ]
      refine go_take 2 21 _ (hkV ⟨A, AN, B, BN, ls⟩ (.slice lo ls.length lc)) rfl (by kernel_rfl) (by kernel_rfl) (by kernel_rfl) (by kernel_rfl) (fun _ _ _ h => h) (Or.inl ⟨by kernel_rfl, fun u hu => load_hk (hxx u hu) (.tmp 1) (by kernel_rfl) (by kernel_rfl)⟩) hHeld ?_
      simp only [Act.put, List.setIfInBounds_toArray, List.set_cons_zero, List.set_cons_succ]
      refine go_callE 1 20 _ rfl (by kernel_rfl) (by kernel_rfl) (by kernel_rfl) 32 (.func 32) #[.tmp 19] #[43] (by kernel_rfl) #[] (by kernel_rfl) #[hkV ⟨A, AN, B, BN, ls⟩ (.slice lo ls.length lc)] (by kernel_rfl) (enters_of Tryd.func32 (by kernel_rfl) rfl) _ (hold_held hv1 hl HO hHeld) ?_
      rintro vo w1 hHeld1 ⟨hvo, hBo⟩
      obtain ⟨oo, oc, rfl⟩ := Holds.form hvo
      simp only [Act.put, List.setIfInBounds_toArray, List.set_cons_zero, List.set_cons_succ]
      refine go_callE 3 22 _ rfl (by kernel_rfl) (by kernel_rfl) (by kernel_rfl) 34 (.func 34) #[.tmp 21] #[43] (by kernel_rfl) #[] (by kernel_rfl) #[hkV ⟨A, AN, B, BN, ls⟩ (.slice lo ls.length lc)] (by kernel_rfl) (enters_of Tryd.func34 (by kernel_rfl) rfl) _ (hnew_held hv1 hl HN hHeld1) ?_
      rintro vn w2 hHeld ⟨hvn, hBn⟩
      obtain ⟨no, nc, rfl⟩ := Holds.form hvn
      simp only [Act.put, List.setIfInBounds_toArray, List.set_cons_zero, List.set_cons_succ]
      refine go_take 4 3 _ (.slice oo RO.length oc) rfl (by kernel_rfl) (by kernel_rfl) (by kernel_rfl) (by kernel_rfl) (fun _ _ _ h => h) (Or.inl ⟨by kernel_rfl, fun u hu => by kernel_rfl⟩) hHeld ?_
      simp only [Act.put, List.setIfInBounds_toArray, List.set_cons_zero, List.set_cons_succ]
      refine go_take 5 4 _ (.slice no RN.length nc) rfl (by kernel_rfl) (by kernel_rfl) (by kernel_rfl) (by kernel_rfl) (fun _ _ _ h => h) (Or.inl ⟨by kernel_rfl, fun u hu => by kernel_rfl⟩) hHeld ?_
      simp only [Act.put, List.setIfInBounds_toArray, List.set_cons_zero, List.set_cons_succ]
      refine wpAnyH_done (by kernel_rfl) ?_ _
      refine NoPanic.normal ?_
      go_wp2_with fail
      go_meet
      case rel => exact ⟨_, _, _, _, rfl, rfl, HS.keep hvo hBn (Nat.le_refl _), hvn, hHeld⟩
    case rest =>
      obtain ⟨oo, oc, no, nc, rfl, rfl, hvo, hvn, hBz⟩ := hcut
      have hB2 := hBl.trans (hBz.mono hBl.size)
      obtain ⟨y0, y1, y2, y3, y4⟩ := (hxx _ hBz).cells
      dsimp only at y0 y1 y2 y3 y4
      have hv2 := HMk.keep hv1 hBz (Nat.le_refl _)
      generalize wc = w2 at *
      clear x0 x1 x2 x3 x4
      obtain ⟨s, hs⟩ : ∃ s, allB ls = s := ⟨_, rfl⟩
      have HS1 : Hid (ls.any (fun m => !okS m.sg) = !s) := (by show _ = _; rw [any_strange, hs])
      have HF2 : Hid (fldB ls = (s && checkB RO && checkB RN)) := (by have h := HF.out; rw [hs] at h; exact h)
      clear HF hs
      go_wp2_with fail
      refine (hContains_f 47 ls (fun m => !okS m.sg) _ w2 hv2 hl (enters_of Tryd.func47 (by kernel_rfl) rfl) (fun m _ u => hstrange_f m u) (!s) HS1).mono ?_
      rintro e w3 ⟨rfl, hB3⟩
      have hx3 := (hxx _ hBz).low hB3
      have hvo3 := HS.keep hvo hB3 (Nat.le_refl _)
      have hvn3 := HS.keep hvn hB3 (Nat.le_refl _)
      have hv3 := HMk.keep hv2 hB3 (Nat.le_refl _)
      have hB4 := hB2.trans (hB3.mono hB2.size)
      obtain ⟨z0, z1, z2, z3, z4⟩ := hx3.cells
      dsimp only at z0 z1 z2 z3 z4
      clear y0 y1 y2 y3 y4 HS1
      cases s with
      | false =>
        have HE : Hid (6 = r) := (by show _ = _; rw [← HR.out, chk_fld HG.out (by rw [HF2.out]; rfl)])
        clear HR HG HF2
        go_wp2
        go_ret
        exact ⟨by rw [← HE.out]; rfl, hB4⟩
      | true =>
      obtain ⟨q1, hq1⟩ : ∃ q, checkB RO = q := ⟨_, rfl⟩
      obtain ⟨q2, hq2⟩ : ∃ q, checkB RN = q := ⟨_, rfl⟩
      have HQ1 : Hid (checkB RO = q1) := hq1
      have HQ2 : Hid (checkB RN = q2) := hq2
      have HF3 : Hid (fldB ls = (q1 && q2)) := (by have h := HF2.out; rw [hq1, hq2, Bool.true_and] at h; exact h)
      clear HF2 hq1 hq2
      cases q1 with
      | false =>
        have HE : Hid (6 = r) := (by show _ = _; rw [← HR.out, chk_fld HG.out (by rw [HF3.out]; rfl)])
        clear HR HG HF3
        go_wp2_with fail
        refine (hlCheck_f _ RO w3 hROl HROm.out hvo3 false HQ1 6 rfl).mono ?_
        rintro e w4 ⟨rfl, rfl⟩
        go_wp2
        go_ret
        exact ⟨by rw [← HE.out]; rfl, hB4⟩
      | true =>
      go_wp2_with fail
      refine (hlCheck_f _ RO w3 hROl HROm.out hvo3 true HQ1 0 rfl).mono ?_
      rintro e w4 ⟨rfl, rfl⟩
      cases q2 with
      | false =>
        have HE : Hid (6 = r) := (by show _ = _; rw [← HR.out, chk_fld HG.out (by rw [HF3.out]; rfl)])
        clear HR HG HF3
        go_wp2_with fail
        refine (hlCheck_f _ RN w3 hRNl HRNm.out hvn3 false HQ2 6 rfl).mono ?_
        rintro e w4 ⟨rfl, rfl⟩
        go_wp2
        go_ret
        exact ⟨by rw [← HE.out]; rfl, hB4⟩
      | true =>
      go_wp2_with fail
      refine (hlCheck_f _ RN w3 hRNl HRNm.out hvn3 true HQ2 0 rfl).mono ?_
      rintro e w4 ⟨rfl, rfl⟩
      have HFT : Hid (fldB ls = true) := (by have h := HF3.out; exact h)
      clear HF3 HQ1 HQ2
      by_cases ha : (RO.length : Int) = AN
      · have ea : ((RO.length : Int) != AN) = false := by simpa using ha
        by_cases hb : (RN.length : Int) = BN
        · have eb : ((RN.length : Int) != BN) = false := by simpa using hb
          obtain ⟨q, hq⟩ : ∃ q, ls.any chgB = q := ⟨_, rfl⟩
          have HQ : Hid (ls.any chgB = q) := hq
          have HE : Hid ((if q = true then 0 else 50) = r) := (by
            show _ = _
            rw [← HR.out, chk_end (h := ⟨A, AN, B, BN, ls⟩) HG.out HFT.out (by rw [HO.out, ha]) (by rw [HN.out, hb]) hq])
          clear HR HG HFT hq ha hb
          go_wp2_with fail
          refine (hContains_f 49 ls chgB _ w3 hv3 hl (enters_of Tryd.func49 (by kernel_rfl) rfl) (fun m _ u => hchanged_f m u) q HQ).mono ?_
          rintro e w5 ⟨rfl, hB5⟩
          have hB6 := hB4.trans (hB5.mono hB4.size)
          cases q with
          | false =>
            go_wp2
            go_ret
            exact ⟨by rw [← HE.out]; rfl, hB6⟩
          | true =>
            go_wp2
            go_ret
            exact ⟨by rw [← HE.out]; rfl, hB6⟩
        · have eb : ((RN.length : Int) != BN) = true := by simpa using hb
          have HE : Hid (120 = r) := (by
            show _ = _
            rw [← HR.out, chk_cnt (h := ⟨A, AN, B, BN, ls⟩) HG.out HFT.out (.inr (by rw [HN.out]; exact fun k => hb k.symm))])
          clear HR HG HFT ha hb
          go_wp2
          go_ret
          exact ⟨by rw [← HE.out]; rfl, hB4⟩
      · have ea : ((RO.length : Int) != AN) = true := by simpa using ha
        have HE : Hid (120 = r) := (by
          show _ = _
          rw [← HR.out, chk_cnt (h := ⟨A, AN, B, BN, ls⟩) HG.out HFT.out (.inl (by rw [HO.out]; exact fun k => ha k.symm))])
        clear HR HG HFT ha
        go_wp2
        go_ret
        exact ⟨by rw [← HE.out]; rfl, hB4⟩
end Go.Proofs.YtgiojkhmkeocfaaDoor
