/-
  Texts that belong together, joined: RcRw, NpM, NpF, NpG, NpH, NpI, NpX, NpC, NoCm, NpD, NpJ, NpK, NpL, NpO, NpRs, NpP, NpRp, RcRz, NpRq.
-/
import Derived.Test.YtkmgblnofapccaaDoorPartA8
import Derived.Deep.RegionHeld3
import Derived.Test.YtkmgblnofapccaaDoorPartA6
import Derived.Test.YtkmgblnofapccaaDoorPartA7
import Derived.Test.YtkmgblnofapccaaDoorPartA4
import Derived.Test.YtkmgblnofapccaaDoorPartA5
import Derived.Lib.IndexAny
import Derived.Deep.QuietTactic
import Derived.BigQuiet
import Derived.Deep.CutBlock
import Derived.Test.YtkmgblnofapccaaDoorPartA3
import Derived.Defers
import Derived.Recover

/- The code's Run of layer 14, walked: the commands of a text are done. -/
namespace Go.Proofs.YtkmgblnofapccaaDoor
open Go.RowKit

/-- how Run ends -/
def RcQ (w : World) (R : Except (Nat × Int) (List (List UInt8))) (e : Ending) (w' : World) : Prop :=
  match R with
  | .error (a, z) => ∃ g, e = .returned (.tuple #[.slice none 0 0, .iface 55 (.pointer (some ⟨g, 0, none⟩))]) ∧ w'.heap[g]? = some (fltO (a : Int) z) ∧ Below w.heap.size w w'
  | .ok l => ∃ v, e = .returned (.tuple #[v, .nilIface]) ∧ w'.ownsRow w.heap.size 9 1 v l.length (scells l) ∧ Below w.heap.size w w'
theorem rc_base {w : World} {B B' : Nat} {e : TypeId} {s n : Nat} {v : Value} {xs : List Value} (h : w.ownsRow B e s v n xs) (hB : B' ≤ B) : w.ownsRow B' e s v n xs := by
  refine ⟨h.1, ?_⟩
  rcases h.2 with h | ⟨g, cap, cur, q1, q2, q3, q4⟩
  · exact .inl h
  · exact .inr ⟨g, cap, cur, q1, Nat.le_trans hB q2, q3, q4⟩
theorem rc_mem {a : List (List UInt8)} {t : List UInt8} (h : t ∈ a) : t.length ≤ a.flatten.length := by
  induction a with
  | nil => cases h
  | cons s a ih =>
    rw [List.flatten_cons, List.length_append]
    rcases List.mem_cons.1 h with rfl | h
    · omega
    · have := ih h
      omega
theorem rcS_ok {a r out o r2 : List (List UInt8)} {p dn d q : Nat} {s : List UInt8} {fl g : Bool} (h : rcS a p s r out dn fl = .ok (o, d, g, q, r2)) : p < q ∧ r2 = r.drop (q - (p + 1)) ∧ ∀ x ∈ o, x ∈ out ∨ x ∈ a ∨ x ∈ r := by
  have key : ∀ (m : Nat) (x : List UInt8), x ∈ out ++ (a.drop dn).take m → x ∈ out ∨ x ∈ a ∨ x ∈ r := by
    intro m x hx
    rcases List.mem_append.1 hx with hx | hx
    · exact .inl hx
    · exact .inr (.inl (List.mem_of_mem_drop (List.mem_of_mem_take hx)))
  unfold rcS at h
  cases hr : rcmF s with
  | none => rw [hr] at h; cases h
  | some x =>
    obtain ⟨ad, ah, n⟩ := x
    rw [hr] at h
    dsimp only at h
    by_cases h1 : ah < dn ∨ (ah = dn ∧ ad = true ∧ fl = true)
    · rw [if_pos h1] at h
      cases h
    · rw [if_neg h1] at h
      by_cases h2 : a.length < ah + (if ad = true then 0 else n)
      · rw [if_pos h2] at h
        cases h
      · rw [if_neg h2] at h
        by_cases h3 : ad = true
        · rw [if_pos h3] at h
          by_cases h4 : r.length < n
          · rw [if_pos h4] at h
            cases h
          · rw [if_neg h4] at h
            cases h
            refine ⟨by omega, by congr 1; omega, fun x hx => ?_⟩
            rcases List.mem_append.1 hx with hx | hx
            · exact key _ x hx
            · exact .inr (.inr (List.mem_of_mem_take hx))
        · rw [if_neg h3] at h
          cases h
          exact ⟨by omega, by simp, fun x hx => key _ x hx⟩
theorem rcE_step {a S out : List (List UInt8)} {q dn f : Nat} {fl : Bool} {R : Except (Nat × Int) (List (List UInt8))} (hq : q < S.length) (hf : S.length - q ≤ f) (h : rcE a f q (S.drop q) out dn fl = R) :
    (∃ e, rcSR a q S[q] (S.drop (q + 1)) out dn fl = .error e ∧ R = .error e) ∨ (∃ o d g q', rcSR a q S[q] (S.drop (q + 1)) out dn fl = .ok (o, d, g, q') ∧ q < q' ∧ S.length - q' ≤ f - 1 ∧ rcE a (f - 1) q' (S.drop q') o d g = R ∧ ∀ x ∈ o, x ∈ out ∨ x ∈ a ∨ x ∈ S) := by
  cases f with
  | zero => omega
  | succ f =>
    rw [List.drop_eq_getElem_cons hq, rcE] at h
    unfold rcSR
    cases hs : rcS a q S[q] (S.drop (q + 1)) out dn fl with
    | error e =>
      rw [hs] at h
      exact .inl ⟨e, rfl, h.symm⟩
    | ok x =>
      obtain ⟨o, d, g, q', r2⟩ := x
      rw [hs] at h
      obtain ⟨h1, h2, h3⟩ := rcS_ok hs
      right
      refine ⟨o, d, g, q', rfl, h1, by omega, ?_, fun x hx => ?_⟩
      · rw [Nat.add_sub_cancel, ← h, h2, List.drop_drop]
        dsimp only
        congr 2
        omega
      · rcases h3 x hx with h | h | h
        · exact .inl h
        · exact .inr (.inl h)
        · exact .inr (.inr (List.mem_of_mem_drop h))
/-- where the runner stands -/
def rcP (g : Nat) (w : World) : Nat := match w.cell? ⟨g, 1, none⟩ with
  | some (.int _ z) => z.toNat
  | _ => 0
theorem rcP_eq {w : World} {g : Nat} {vs vo vm : Value} {p dn : Nat} {fl : Bool} (h : Rbx w g vs p vo dn fl vm) : rcP g w = p := by
  unfold rcP
  rw [h.cells.2.1]
  simp
set_option maxRecDepth 10000 in
set_option maxHeartbeats 16000000 in
theorem rcRun_f (t : List UInt8) (a : List (List UInt8)) (va : Value) (w : World) (ha : HS w va a) (htl : t.length ≤ 1099511627776) (hla : a.length ≤ 137438953472) (HTA : Hid (∀ s ∈ a, s.length ≤ 1099511627776)) (R : Except (Nat × Int) (List (List UInt8))) (HR : Hid (rcR t a = R)) :
    Calls Tryd.prog 9 #[.string ⟨t.toArray⟩, va] w fun e w' => RcQ w R e w' := by
  have hR := HR.out
  unfold rcR at hR
  clear HR
  obtain ⟨ao, ac, rfl⟩ := Holds.form ha
  by_cases hlong : 1048576 < t.length
  · rw [if_pos hlong] at hR
    subst hR
    have HA : Hid ((w.alloc (fltO ((0 : Nat) : Int) 9)).heap[w.heap.size]? = some (fltO ((0 : Nat) : Int) 9) ∧ Below w.heap.size w (w.alloc (fltO ((0 : Nat) : Int) 9))) := ⟨heap_alloc_new w _, (Below.refl _ w).alloc (Nat.le_refl _) _⟩
    have i1 : (1048576 : Int) < (t.length : Int) := by omega
    go_enter Tryd.func9, Tryd.ntmps9
    go_wp2
    go_ret2
    exact ⟨_, rfl, HA.out.1, HA.out.2⟩
  · rw [if_neg hlong] at hR
    have i1 : ¬ (1048576 : Int) < (t.length : Int) := by omega
    have hsl := Ln.split_len t
    have HSB : Hid (∀ s ∈ Ln.splitL t, s.length ≤ 1099511627776 ∧ s ≠ [] ∧ ∀ d ∈ s.dropLast, d ≠ 10) := (by
      intro s hs
      have h1 := congrArg List.length (Ln.split_join t)
      have h2 := rc_mem hs
      have h3 := lin_no (rows_lin (rows_of (Ln.split_right t)) s hs)
      exact ⟨by omega, h3.1, h3.2⟩)
    have hs := nSplit_f t w htl
    have HR2 : Hid (rcE a (Ln.splitL t).length 0 (Ln.splitL t) [] 0 false = R) := hR
    clear hR
    obtain ⟨S, hSd⟩ : ∃ S, Ln.splitL t = S := ⟨_, rfl⟩
    rw [hSd] at hsl HSB hs HR2
    clear hSd
    have hSl : S.length ≤ 1048576 := by omega
    go_enter Tryd.func9, Tryd.ntmps9
    go_wp2_with fail
    refine hs.mono ?_
    rintro e w1 ⟨vs, rfl, hown, hb1⟩
    have hScr : HS w1 vs S := holds_of hown
    obtain ⟨so, sc, rfl⟩ := Holds.form hScr
    have ha1 := HS.keep ha hb1 (Nat.le_refl _)
    clear hown hs ha
    have hbB : Below w1.heap.size w1 (w1.alloc (.cells #[.slice so S.length sc, .int .i64 0, .slice ao a.length ac, .int .i64 0, .bool false, .slice none 0 0] 59)) := (Below.refl _ w1).alloc (Nat.le_refl _) _
    have hE0 : Rrn w1 w1.heap.size (.slice so S.length sc) (.slice ao a.length ac) (.slice none 0 0) S a [] 0 0 false (w1.alloc (.cells #[.slice so S.length sc, .int .i64 0, .slice ao a.length ac, .int .i64 0, .bool false, .slice none 0 0] 59)) :=
      ⟨hbB, Nat.le_refl _, heap_alloc_new w1 _, hScr, ha1, World.ownsRow_nil _ _ _ _, Nat.zero_le _, Nat.zero_le _, Nat.zero_le _⟩
    have HE0 : Hid (Rrn w1 w1.heap.size (.slice so S.length sc) (.slice ao a.length ac) (.slice none 0 0) S a [] 0 0 false (w1.alloc (.cells #[.slice so S.length sc, .int .i64 0, .slice ao a.length ac, .int .i64 0, .bool false, .slice none 0 0] 59))) := hE0
    clear hE0 hbB
    go_wp2
    generalize w1.alloc (.cells #[.slice so S.length sc, .int .i64 0, .slice ao a.length ac, .int .i64 0, .bool false, .slice none 0 0] 59) = W4 at HE0 ⊢
    obtain ⟨G, hG⟩ : ∃ G, w1.heap.size = G := ⟨_, rfl⟩
    rw [hG] at HE0 ⊢
    have HGE : Hid (w1.heap.size = G) := hG
    clear hG
    go_loopw [] (fun wr => ∃ (q : Nat) (vm : Value) (out : List (List UInt8)) (dn : Nat) (fl : Bool) (f : Nat), Hid (Rrn w1 G (.slice so S.length sc) (.slice ao a.length ac) vm S a out q dn fl wr) ∧ q ≤ S.length ∧ Hid (S.length - q ≤ f ∧ rcE a f q (S.drop q) out dn fl = R) ∧ Hid (∀ s ∈ out, s.length ≤ 1099511627776)) (fun wr => S.length - rcP G wr)
    case atStart =>
      exact ⟨0, _, [], 0, false, S.length, HE0, Nat.zero_le _, (⟨Nat.le_refl _, HR2.out⟩ : _ ∧ _), fun s hs => by cases hs⟩
    case round =>
      clear HE0 HR2
      obtain ⟨q, vm, out, dn, fl, f, HE, hq, HF, HB⟩ := hrel
      have hmeas := rcP_eq HE.out.box
      obtain ⟨c0, c1, _, _, _, _⟩ := HE.out.box.cells
      by_cases hlt : q < S.length
      · have l1 : (q : Int) < (S.length : Int) := by omega
        obtain ⟨r, hr⟩ : ∃ r, rcSR a q S[q] (S.drop (q + 1)) out dn fl = r := ⟨_, rfl⟩
        have HRs : Hid (rcSR a q S[q] (S.drop (q + 1)) out dn fl = r) := hr
        have hst := rstep_f w1 G _ _ vm S a out q dn fl wr HE.out (by omega) (by omega) HSB hlt r HRs
        have hE := rcE_step hlt HF.out.1 HF.out.2
        rw [hr] at hE
        have HLow : Hid (Below w.heap.size w w1) := hb1
        clear hr HF HRs
        go_wp2_with fail
        refine hst.mono ?_
        intro e w5 hQ
        rcases hE with ⟨⟨k, z⟩, rfl, rfl⟩ | ⟨o, d, g', q', rfl, hqq, hfl, hrec, hmem⟩
        · obtain ⟨rfl, hz, p5, dn5, fl5, vm5, out5, rfl, hE5⟩ := hQ
          have hzb : (z != 0) = true := bne_iff_ne.2 hz
          obtain ⟨_, d1, _, _, _, _⟩ := hE5.box.cells
          have hp5 := hE5.hp
          have hlow5 : Below w.heap.size w w5 := HLow.out.trans (hE5.low.mono HLow.out.size)
          have d1d : w5.drew.cell? ⟨G, 1, none⟩ = some (.int .i64 (p5 : Int)) := d1
          have hw : IntKind.i64.wrap ((p5 : Int) + 1) = (p5 : Int) + 1 := rc_wrap (by omega) (by omega)
          have HA : Hid ((w5.drew.alloc (fltO ((p5 + 1 : Nat) : Int) z)).heap[w5.heap.size]? = some (fltO ((p5 + 1 : Nat) : Int) z) ∧ Below w.heap.size w (w5.drew.alloc (fltO ((p5 + 1 : Nat) : Int) z))) := ⟨heap_alloc_new w5.drew _, hlow5.drew.alloc hlow5.size _⟩
          clear hE5
          go_wp2_with fail
          go_region_held3 (fun w' => w'.cell? ⟨G, 1, none⟩ = some (.int .i64 (p5 : Int))) (go_keep) (fail)
          go_wp2
          go_ret2
          exact ⟨_, rfl, HA.out.1, HA.out.2⟩
        · obtain ⟨rfl, vm5, hE5⟩ := hQ
          have hp5 := hE5.hp
          have HE5 : Hid (Rrn w1 G (.slice so S.length sc) (.slice ao a.length ac) vm5 S a o q' d g' w5) := hE5
          have hm5 := rcP_eq hE5.box
          have HF5 : Hid (S.length - q' ≤ f - 1 ∧ rcE a (f - 1) q' (S.drop q') o d g' = R) := ⟨hfl, hrec⟩
          have HB5 : Hid (∀ s ∈ o, s.length ≤ 1099511627776) := fun s hs => (by
            rcases hmem s hs with h | h | h
            · exact HB.out s h
            · exact HTA.out s h
            · exact (HSB.out s h).1)
          clear hE5 hrec hmem
          go_wp2
          exact ⟨⟨q', vm5, o, d, g', f - 1, HE5, hp5, HF5, HB5⟩, by rw [hm5, hmeas]; omega⟩
      · have eq : q = S.length := by omega
        subst eq
        have l1 : decide ((S.length : Int) < (S.length : Int)) = false := decide_eq_false (by omega)
        have hRR : rcF S.length (out ++ a.drop dn) = R := (by
          have h := HF.out.2
          rw [List.drop_of_length_le (Nat.le_refl _), rcE_nil] at h
          exact h)
        have hR5 := HE.out
        have hdn := hR5.hd
        have hob := hR5.ob
        obtain ⟨po, pc, hsl, hsY⟩ := run_cut_end a ao ac (dn : Int) (by omega) (by omega) w1 hR5.old
        rw [cut_all a dn hdn] at hsl hsY
        have HYl : Hid ((a.drop dn).length = a.length - dn) := List.length_drop
        have HYB : Hid (∀ s ∈ out ++ a.drop dn, s.length ≤ 1099511627776) := (by
          intro s hs
          rcases List.mem_append.1 hs with h | h
          · exact HB.out s h
          · exact HTA.out s (List.mem_of_mem_drop h))
        obtain ⟨Y, hY⟩ : ∃ Y, a.drop dn = Y := ⟨_, rfl⟩
        rw [hY] at hsl hsY HYl HYB hRR
        have hbY : out.length + Y.length ≤ 4398046511104 := (by have := HYl.out; omega)
        have HRR : Hid (rcF S.length (out ++ Y) = R) := hRR
        clear HF HE HB hmeas hY hRR
        obtain ⟨mo, mc, rfl⟩ := rc_form hR5.own
        have hGW := hR5.gW
        go_upto_region 8 with fail
        refine wp_region_noPanic ?_
        refine wp_region_held_drew (S := fun u => u.cell? ⟨G, 5, none⟩ = some (.slice mo out.length mc) ∧ u.cell? ⟨G, 3, none⟩ = some (.int .i64 (dn : Int))) (by kernel_rfl) ⟨hR5.box.cells.2.2.2.2.2, hR5.box.cells.2.2.2.1⟩ (fun hSP => ?_)
        have hR6 := hR5.keep (Below.refl _ wr).drew
        generalize wr.drew = w6 at hSP hR6 ⊢
        clear hR5
        refine go_take 0 38 _ (.pointer (some ⟨G, 5, none⟩)) rfl (by kernel_rfl) (by kernel_rfl) (by kernel_rfl) (by kernel_rfl) (fun _ _ _ h => h) (Or.inl ⟨by kernel_rfl, fun u hu => by kernel_rfl⟩) hSP ?_
        simp only [Act.put, List.setIfInBounds_toArray, List.set_cons_zero, List.set_cons_succ]
        refine go_take 1 39 _ (.slice mo out.length mc) rfl (by kernel_rfl) (by kernel_rfl) (by kernel_rfl) (by kernel_rfl) (fun _ _ _ h => h) (Or.inl ⟨by kernel_rfl, fun u hu => rx_ld hu.1 (.tmp 38) (by kernel_rfl) (by kernel_rfl)⟩) hSP ?_
        simp only [Act.put, List.setIfInBounds_toArray, List.set_cons_zero, List.set_cons_succ]
        refine go_take 2 40 _ (.slice ao a.length ac) rfl (by kernel_rfl) (by kernel_rfl) (by kernel_rfl) (by kernel_rfl) (fun _ _ _ h => h) (Or.inl ⟨by kernel_rfl, fun u hu => by kernel_rfl⟩) hSP ?_
        simp only [Act.put, List.setIfInBounds_toArray, List.set_cons_zero, List.set_cons_succ]
        refine go_take 3 41 _ (.pointer (some ⟨G, 3, none⟩)) rfl (by kernel_rfl) (by kernel_rfl) (by kernel_rfl) (by kernel_rfl) (fun _ _ _ h => h) (Or.inl ⟨by kernel_rfl, fun u hu => by kernel_rfl⟩) hSP ?_
        simp only [Act.put, List.setIfInBounds_toArray, List.set_cons_zero, List.set_cons_succ]
        refine go_take 4 42 _ (.int .i64 (dn : Int)) rfl (by kernel_rfl) (by kernel_rfl) (by kernel_rfl) (by kernel_rfl) (fun _ _ _ h => h) (Or.inl ⟨by kernel_rfl, fun u hu => load_int hu.2 (.tmp 41) (by kernel_rfl) (by kernel_rfl)⟩) hSP ?_
        simp only [Act.put, List.setIfInBounds_toArray, List.set_cons_zero, List.set_cons_succ]
        refine go_take 5 43 _ (.slice po Y.length pc) rfl (by kernel_rfl) (by kernel_rfl) (by kernel_rfl) (by kernel_rfl) (fun _ _ _ h => h) (Or.inl ⟨by kernel_rfl, fun u hu => rx_slL hsl (.tmp 40) (.tmp 42) (by kernel_rfl) (by kernel_rfl) (by kernel_rfl)⟩) hSP ?_
        simp only [Act.put, List.setIfInBounds_toArray, List.set_cons_zero, List.set_cons_succ]
        obtain ⟨v7, w7, hr7, ho7, hg7, hn7⟩ := rc_append w6 23 (G + 1) _ out hR6.own _ Y (hsY w6 (HS.keep hR6.old hR6.low (Nat.le_refl _))) hbY hR6.box.lt
        obtain ⟨hb7, hl7⟩ := hR6.grow hg7
        obtain ⟨mo7, mc7, rfl⟩ := rc_form ho7
        refine go_val 6 44 _ rfl (by kernel_rfl) (by kernel_rfl) (by kernel_rfl) (.slice mo7 (out ++ Y).length mc7) (w7) (rx_app (.tmp 39) (.tmp 43) (by kernel_rfl) (by kernel_rfl) (by kernel_rfl) hr7) (⟨hb7.cells.2.2.2.2.2, hb7.cells.2.2.2.1⟩) ?_
        simp only [Act.put, List.setIfInBounds_toArray, List.set_cons_zero, List.set_cons_succ]
        refine go_take 7 8 _ (.slice mo7 (out ++ Y).length mc7) rfl (by kernel_rfl) (by kernel_rfl) (by kernel_rfl) (by kernel_rfl) (fun _ _ _ h => h) (Or.inl ⟨by kernel_rfl, fun u hu => by kernel_rfl⟩) ⟨hb7.cells.2.2.2.2.2, hb7.cells.2.2.2.1⟩ ?_
        simp only [Act.put, List.setIfInBounds_toArray, List.set_cons_zero, List.set_cons_succ]
        refine wpAnyH_done (by kernel_rfl) ?_ _
        refine NoPanic.normal ?_
        have hGE := HGE.out
        have hH7 : HS w7 (.slice mo7 (out ++ Y).length mc7) (out ++ Y) := holds_of ho7
        have hlw : Below w.heap.size w w7 := hb1.trans (hl7.mono hb1.size)
        have HO7 : Hid (w7.ownsRow w.heap.size 9 1 (.slice mo7 (out ++ Y).length mc7) (out ++ Y).length (scells (out ++ Y))) := rc_base ho7 (by have := hb1.size; omega)
        obtain ⟨N, hN⟩ : ∃ N, (out ++ Y).length = N := ⟨_, rfl⟩
        have hNb : N ≤ 1099511627776 := (by rw [← hN, List.length_append]; have := HYl.out; omega)
        obtain ⟨V, hV⟩ : ∃ V, out ++ Y = V := ⟨_, rfl⟩
        rw [hV] at hN hH7 HO7 HRR HYB ho7
        rw [hV]
        have HNV : Hid (V.length = N) := hN
        obtain ⟨ck, hck⟩ : ∃ ck, Ln.checkB V = ck := ⟨_, rfl⟩
        have HCK : Hid (Ln.checkB V = ck) := hck
        have hcc := hlCheck_f (.slice mo7 V.length mc7) V w7 (by omega) HYB.out hH7 ck HCK (if ck = true then 0 else 6) rfl
        obtain ⟨_, d1, _, _, _, _⟩ := hb7.cells
        clear hN hck hH7 hV ho7 hg7 hn7 hr7 hR6 hSP hsl hsY hl7
        go_wp2_with fail
        refine hcc.mono ?_
        rintro e w8 ⟨rfl, rfl⟩
        have hrr := HRR.out
        unfold rcF at hrr
        rw [HCK.out] at hrr
        cases ck with
        | true =>
          rw [if_pos rfl] at hrr ⊢
          subst hrr
          go_wp2
          go_ret2
          exact ⟨_, rfl, HO7.out, hlw⟩
        | false =>
          rw [if_neg (by decide)] at hrr ⊢
          subst hrr
          have d1d : w7.drew.cell? ⟨G, 1, none⟩ = some (.int .i64 (S.length : Int)) := d1
          have hw : IntKind.i64.wrap ((S.length : Int) + 1) = (S.length : Int) + 1 := rc_wrap (by omega) (by omega)
          have HA : Hid ((w7.drew.alloc (fltO ((S.length + 1 : Nat) : Int) 6)).heap[w7.heap.size]? = some (fltO ((S.length + 1 : Nat) : Int) 6) ∧ Below w.heap.size w (w7.drew.alloc (fltO ((S.length + 1 : Nat) : Int) 6))) := ⟨heap_alloc_new w7.drew _, hlw.drew.alloc hlw.size _⟩
          clear hb7
          go_wp2_with fail
          go_region_held3 (fun w' => w'.cell? ⟨G, 1, none⟩ = some (.int .i64 (S.length : Int))) (go_keep) (fail)
          go_wp2
          go_ret2
          exact ⟨_, rfl, HA.out.1, HA.out.2⟩
end Go.Proofs.YtkmgblnofapccaaDoor

/- The normal form as the code reads it, and that it is read as the plain reader does; plain mathematics. -/
namespace Go.Proofs.YtkmgblnofapccaaDoor
open Ln

/-- so many lines with a sign, with their line feeds -/
def rdL (sg : List UInt8) (S : Int) : Nat → Nat → List (List UInt8) → Except (Nat × Int) (List Mk × Nat × List (List UInt8))
  | 0, p, ls => .ok ([], p, ls)
  | n + 1, p, ls => match nxt p ls with
    | .error e => .error e
    | .ok (s, r) => if sg.isPrefixOf s = true then match rdL sg S n (p + 1) r with
        | .error e => .error e
        | .ok (l, p2, r2) => .ok (⟨S, s.drop sg.length ++ [10]⟩ :: l, p2, r2)
      else .error (p + 1, 3)
/-- the last text without its line feed -/
def cutL : List Mk → List Mk
  | [] => []
  | [m] => [⟨m.sg, m.tx.dropLast⟩]
  | m :: l => m :: cutL l
def lastT (l : List Mk) : List UInt8 := (l.getLast?.map (·.tx)).getD []
/-- does the last line lose its line feed? -/
def endK (l : List Mk) (r : List (List UInt8)) : Bool := lastT l != [10] && pkM r
/-- a side as the code reads it -/
def sdC (sg : List UInt8) (S : Int) (n p : Nat) (ls : List (List UInt8)) : Except (Nat × Int) (List Mk × Nat × List (List UInt8)) :=
  match rdL sg S n p ls with
  | .error e => .error e
  | .ok (l, p1, r) => if (decide (0 < n) && endK l r) = true then .ok (cutL l, p1 + 1, r.tail) else .ok (l, p1, r)
/-- a hunk as the code reads it -/
def hkK (k p : Nat) (ls : List (List UInt8)) : Except (Nat × Int) (Hk × Nat × List (List UInt8)) :=
  match nxt p ls with
  | .error e => .error e
  | .ok (s, r) => match cmdP s with
    | none => .error (p + 1, 3)
    | some (A, AN, B, BN) => if k = 4096 then .error (p + 1, 9) else match sdC [60, 32] 45 AN.toNat (p + 1) r with
      | .error e => .error e
      | .ok (l1, p1, r1) => match (if 0 < AN ∧ 0 < BN then sepP p1 r1 else .ok (p1, r1)) with
        | .error e => .error e
        | .ok (p2, r2) => match sdC [62, 32] 43 BN.toNat p2 r2 with
          | .error e => .error e
          | .ok (l2, p3, r3) => .ok (⟨A, AN, B, BN, l1 ++ l2⟩, p3, r3)
def hksK : Nat → Nat → Nat → List (List UInt8) → Except (Nat × Int) (List Hk)
  | 0, _, _, _ => .ok []
  | f + 1, k, p, ls => if ls = [] then .ok [] else match hkK k p ls with
    | .error e => .error e
    | .ok (h, p1, r) => match hksK f (k + 1) p1 r with
      | .error e => .error e
      | .ok l => .ok (h :: l)
/-- a side that is followed by a mark behind an empty line: wrong in both ways of reading -/
def Bad (X Y : Except (Nat × Int) (List Mk × Nat × List (List UInt8))) : Prop := ∃ l p r, Y = .ok (l, p, markT :: r) ∧ X = .error (p + 1, 3)
theorem mark_eq {s : List UInt8} (hp : ∀ c ∈ s.dropLast, c ≠ 10) (h : markT.isPrefixOf s = true) : s = markT := by
  rw [List.isPrefixOf_iff_prefix] at h
  obtain ⟨t, rfl⟩ := h
  cases t with
  | nil => simp
  | cons c t =>
    exfalso
    have h1 : (10 : UInt8) ∈ (markT ++ c :: t).dropLast := by
      rw [List.dropLast_append_of_ne_nil (by simp)]
      exact List.mem_append_left _ (by decide)
    exact hp 10 h1 rfl
theorem cutL_cons {m : Mk} {l : List Mk} (h : l ≠ []) : cutL (m :: l) = m :: cutL l := by
  cases l with
  | nil => exact absurd rfl h
  | cons y l => rfl
theorem cutL_snoc (l : List Mk) (m : Mk) : cutL (l ++ [m]) = l ++ [⟨m.sg, m.tx.dropLast⟩] := by
  induction l with
  | nil => rfl
  | cons x l ih =>
    rw [List.cons_append, cutL_cons (by simp), ih]
    rfl
theorem lastT_snoc (l : List Mk) (m : Mk) : lastT (l ++ [m]) = m.tx := by simp [lastT]
theorem sdC_zero (sg : List UInt8) (S : Int) (p : Nat) (ls : List (List UInt8)) : sdC sg S 0 p ls = .ok ([], p, ls) := by
  unfold sdC rdL
  rfl
theorem lastT_cons {m : Mk} {l : List Mk} (h : l ≠ []) : lastT (m :: l) = lastT l := by
  cases l with
  | nil => exact absurd rfl h
  | cons y l => simp [lastT]
theorem rdL_len {sg : List UInt8} {S : Int} (n : Nat) : ∀ {p : Nat} {ls : List (List UInt8)} {l : List Mk} {p1 : Nat} {r : List (List UInt8)}, rdL sg S n p ls = .ok (l, p1, r) → l.length = n ∧ p1 = p + n ∧ ls.drop n = r ∧ n ≤ ls.length := by
  induction n with
  | zero =>
    intro p ls l p1 r h
    simp only [rdL] at h
    cases h
    exact ⟨rfl, rfl, rfl, Nat.zero_le _⟩
  | succ n ih =>
    intro p ls l p1 r h
    simp only [rdL] at h
    split at h
    · cases h
    · rename_i s r0 hn
      have hls := nxt_ok hn
      split at h
      · split at h
        · cases h
        · rename_i l' q r' hq
          obtain ⟨a1, a2, a3, a4⟩ := ih hq
          cases h
          subst hls
          exact ⟨by simp [a1], by omega, by simpa using a3, by simp; omega⟩
      · cases h
/-- the two ways of reading a side -/
theorem side_both {sg : List UInt8} {S : Int} (n : Nat) : ∀ {p : Nat} {ls : List (List UInt8)}, Plain ls → rdN sg S n p ls = sdC sg S n p ls ∨ Bad (rdN sg S n p ls) (sdC sg S n p ls) := by
  induction n with
  | zero =>
    intro p ls _
    left
    rw [sdC_zero]
    rfl
  | succ n ih =>
    intro p ls hP
    unfold sdC
    simp only [rdN, rdL, mkd]
    cases hn : nxt p ls with
    | error e => left; rfl
    | ok z =>
      obtain ⟨s, r⟩ := z
      dsimp only
      have hls := nxt_ok hn
      subst hls
      have hPr : Plain r := fun x hx => hP x (by simp [hx])
      have hsn : ∀ c ∈ s, c ≠ 10 := by
        have := hP (s ++ [10]) (by simp)
        simpa using this
      by_cases hpre : sg.isPrefixOf s = true
      · rw [if_pos hpre, if_pos hpre]
        cases n with
        | zero =>
          simp only [rdN, rdL]
          have e1 : ((0 : Nat) == 0) = true := rfl
          rw [e1, Bool.true_and]
          have e2 : lastT [(⟨S, s.drop sg.length ++ [10]⟩ : Mk)] = s.drop sg.length ++ [10] := rfl
          unfold endK
          rw [e2]
          have e3 : decide (0 < 0 + 1) = true := rfl
          rw [e3, Bool.true_and]
          cases hk : pkM r with
          | false =>
            left
            rw [if_neg (by decide), Bool.and_false, if_neg (by decide)]
          | true =>
            rw [if_pos rfl, Bool.and_true]
            by_cases hem : s.drop sg.length = []
            · right
              rw [if_pos hem, hem]
              rw [if_neg (by decide)]
              cases r with
              | nil => cases hk
              | cons y r =>
                have : y = markT := mark_eq (hPr y (by simp)) hk
                subst this
                exact ⟨_, _, _, rfl, rfl⟩
            · left
              have e4 : (s.drop sg.length ++ [10] != [10]) = true := by
                rw [bne_iff_ne]
                intro h
                apply hem
                have := congrArg List.length h
                simp at this
                exact List.eq_nil_of_length_eq_zero (by simpa using this)
              rw [if_neg hem, e4, if_pos rfl]
              simp [cutL]
        | succ n =>
          have e1 : ((n + 1 : Nat) == 0) = false := rfl
          rw [e1, Bool.false_and, if_neg (by decide)]
          dsimp only
          have hi := @ih (p + 1) r hPr
          unfold sdC at hi
          cases hL : rdL sg S (n + 1) (p + 1) r with
          | error e =>
            rw [hL] at hi
            left
            rcases hi with hi | ⟨_, _, _, h, _⟩
            · rw [hi]
            · cases h
          | ok z =>
            obtain ⟨l, p1, r1⟩ := z
            rw [hL] at hi
            dsimp only at hi ⊢
            have hlen := (rdL_len _ hL).1
            have hne : l ≠ [] := by
              rintro rfl
              simp at hlen
            unfold endK at hi ⊢
            rw [lastT_cons hne, cutL_cons hne]
            have e3 : decide (0 < n + 1) = true := decide_eq_true (by omega)
            have e4 : decide (0 < n + 1 + 1) = true := decide_eq_true (by omega)
            rw [e3] at hi
            rw [e4]
            by_cases hb : (true && (lastT l != [10] && pkM r1)) = true
            · rw [if_pos hb] at hi ⊢
              rcases hi with hi | ⟨l', p', r', h, h'⟩
              · left
                rw [hi]
              · right
                simp only [Except.ok.injEq, Prod.mk.injEq] at h
                obtain ⟨rfl, rfl, h⟩ := h
                exact ⟨_, _, r', by rw [h], by rw [h']⟩
            · rw [if_neg hb] at hi ⊢
              rcases hi with hi | ⟨l', p', r', h, h'⟩
              · left
                rw [hi]
              · right
                cases h
                exact ⟨_, _, _, rfl, by rw [h']⟩
      · left
        rw [if_neg hpre, if_neg hpre]
theorem sdC_drop {sg : List UInt8} {S : Int} {n p : Nat} {ls : List (List UInt8)} {l : List Mk} {p1 : Nat} {r : List (List UInt8)} (h : sdC sg S n p ls = .ok (l, p1, r)) : ∃ j, r = ls.drop j ∧ p1 = p + j ∧ j ≤ ls.length := by
  unfold sdC at h
  split at h
  · cases h
  · rename_i l' q r' hq
    obtain ⟨a1, a2, a3, a4⟩ := rdL_len _ hq
    split at h
    · rename_i hb
      cases h
      have hk : pkM r' = true := by
        unfold endK at hb
        simp only [Bool.and_eq_true] at hb
        exact hb.2.2
      have h1 : 0 < r'.length := by
        cases r' with
        | nil => cases hk
        | cons => simp
      rw [← a3, List.length_drop] at h1
      exact ⟨n + 1, by rw [← a3, List.tail_drop], by omega, by omega⟩
    · cases h
      exact ⟨n, a3.symm, a2, a4⟩
theorem cutL_len (l : List Mk) : (cutL l).length = l.length := by
  induction l with
  | nil => rfl
  | cons m l ih =>
    cases l with
    | nil => rfl
    | cons y l => rw [cutL_cons (by simp), List.length_cons, ih]; rfl
theorem sdC_len {sg : List UInt8} {S : Int} {n p : Nat} {ls : List (List UInt8)} {l : List Mk} {p1 : Nat} {r : List (List UInt8)} (h : sdC sg S n p ls = .ok (l, p1, r)) : l.length = n := by
  unfold sdC at h
  split at h
  · cases h
  · rename_i l' q r' hq
    obtain ⟨a1, a2, a3, a4⟩ := rdL_len _ hq
    split at h
    · cases h
      rw [cutL_len, a1]
    · cases h
      exact a1
theorem sepP_drop {p p1 : Nat} {ls r : List (List UInt8)} (h : sepP p ls = .ok (p1, r)) : r = ls.drop 1 ∧ p1 = p + 1 ∧ 1 ≤ ls.length := by
  unfold sepP at h
  split at h
  · cases h
  · rename_i s r0 hn
    have := nxt_ok hn
    subst this
    split at h
    · cases h
      exact ⟨rfl, rfl, by simp⟩
    · cases h
theorem hkK_drop {k p p1 : Nat} {ls r : List (List UInt8)} {h : Hk} (hh : hkK k p ls = .ok (h, p1, r)) : ∃ j, r = ls.drop j ∧ p1 = p + j ∧ 1 ≤ j ∧ j ≤ ls.length ∧ k ≠ 4096 := by
  unfold hkK at hh
  split at hh
  · cases hh
  · rename_i s r0 hn
    have := nxt_ok hn
    subst this
    split at hh
    · cases hh
    · split at hh
      · cases hh
      · rename_i hk
        split at hh
        · cases hh
        · rename_i l1 q1 r1 h1
          obtain ⟨j1, b1, b2, b3⟩ := sdC_drop h1
          split at hh
          · cases hh
          · rename_i q2 r2 h2
            have hs : ∃ j, r2 = r1.drop j ∧ q2 = q1 + j ∧ j ≤ r1.length := (by
              split at h2
              · obtain ⟨c1, c2, c3⟩ := sepP_drop h2
                exact ⟨1, c1, c2, c3⟩
              · cases h2
                exact ⟨0, rfl, rfl, Nat.zero_le _⟩)
            obtain ⟨j2, c1, c2, c3⟩ := hs
            split at hh
            · cases hh
            · rename_i l2 q3 r3 h3
              obtain ⟨j3, d1, d2, d3⟩ := sdC_drop h3
              cases hh
              subst d1 c1 b1
              simp only [List.length_drop] at c3 d3
              refine ⟨1 + (j1 + (j2 + j3)), ?_, by omega, by omega, by simp only [List.length_cons]; omega, hk⟩
              rw [List.drop_drop, List.drop_drop, Nat.add_comm 1, List.drop_succ_cons]
theorem plain_drop {ls : List (List UInt8)} (h : Plain ls) (j : Nat) : Plain (ls.drop j) := fun x hx => h x (List.mem_of_mem_drop hx)
theorem mark_nxt (p : Nat) (r : List (List UInt8)) : nxt p (markT :: r) = .ok (markT.dropLast, r) := rfl
theorem mark_cmd : cmdP markT.dropLast = none := by decide +kernel
theorem mark_sep (p : Nat) (r : List (List UInt8)) : sepP p (markT :: r) = .error (p + 1, 3) := by
  unfold sepP
  rw [mark_nxt]
  rfl
theorem mark_hk (k p : Nat) (r : List (List UInt8)) : hkK k p (markT :: r) = .error (p + 1, 3) ∧ hkP k p (markT :: r) = .error (p + 1, 3) := by
  unfold hkK hkP
  rw [mark_nxt]
  dsimp only
  rw [mark_cmd]
  exact ⟨rfl, rfl⟩
theorem hk_both {k p : Nat} {ls : List (List UInt8)} (hP : Plain ls) (hk : k ≤ 4096) : hkP k p ls = hkK k p ls ∨ ∃ h p1 r, hkK k p ls = .ok (h, p1, markT :: r) ∧ hkP k p ls = .error (p1 + 1, 3) := by
  unfold hkP hkK
  cases hn : nxt p ls with
  | error e => left; rfl
  | ok z =>
    obtain ⟨s, r⟩ := z
    dsimp only
    have hls := nxt_ok hn
    subst hls
    have hPr : Plain r := fun x hx => hP x (by simp [hx])
    cases hc : cmdP s with
    | none => left; rfl
    | some z =>
      obtain ⟨A, AN, B, BN⟩ := z
      dsimp only
      by_cases hk2 : k = 4096
      · left
        rw [if_pos (by omega), if_pos hk2]
      · rw [if_neg (by omega), if_neg hk2]
        have hr := cmd_right hc
        rcases @side_both [60, 32] 45 AN.toNat (p + 1) r hPr with h1 | ⟨l, q, r', h1, h2⟩
        · rw [h1]
          cases hs : sdC [60, 32] 45 AN.toNat (p + 1) r with
          | error e => left; rfl
          | ok z =>
            obtain ⟨l1, p1, r1⟩ := z
            dsimp only
            obtain ⟨j, b1, _, _⟩ := sdC_drop hs
            have hP1 : Plain r1 := by rw [b1]; exact plain_drop hPr j
            cases hp : (if 0 < AN ∧ 0 < BN then sepP p1 r1 else Except.ok (p1, r1)) with
            | error e => left; rfl
            | ok z =>
              obtain ⟨p2, r2⟩ := z
              dsimp only
              have hP2 : Plain r2 := (by
                split at hp
                · obtain ⟨c1, _, _⟩ := sepP_drop hp
                  rw [c1]
                  exact plain_drop hP1 1
                · cases hp
                  exact hP1)
              rcases @side_both [62, 32] 43 BN.toNat p2 r2 hP2 with h3 | ⟨l, q, r', h3, h4⟩
              · left
                rw [h3]
                cases sdC [62, 32] 43 BN.toNat p2 r2 <;> rfl
              · right
                rw [h3, h4]
                exact ⟨_, _, _, rfl, rfl⟩
        · rw [h1, h2]
          dsimp only
          by_cases hb : 0 < AN ∧ 0 < BN
          · left
            rw [if_pos hb, mark_sep]
          · rw [if_neg hb]
            dsimp only
            have hBN : BN.toNat = 0 := (by
              have hA : AN.toNat ≠ 0 := (by
                intro h0
                rw [h0] at h2
                cases h2)
              omega)
            rw [hBN, sdC_zero]
            right
            exact ⟨_, _, _, rfl, rfl⟩
theorem hks_both (f : Nat) : ∀ {k p : Nat} {ls : List (List UInt8)}, Plain ls → ls.length ≤ f → k ≤ 4096 → hksP f k p ls = hksK f k p ls := by
  induction f with
  | zero => intros; rfl
  | succ f ih =>
    intro k p ls hP hf hk
    simp only [hksP, hksK]
    by_cases h0 : ls = []
    · rw [if_pos h0, if_pos h0]
    · rw [if_neg h0, if_neg h0]
      rcases @hk_both k p ls hP hk with h | ⟨h, p1, r, h1, h2⟩
      · rw [h]
        cases hc : hkK k p ls with
        | error e => rfl
        | ok z =>
          obtain ⟨h', p1, r⟩ := z
          obtain ⟨j, b1, b2, b3, b4, b5⟩ := hkK_drop hc
          dsimp only
          rw [@ih (k + 1) p1 r (by rw [b1]; exact plain_drop hP j) (by rw [b1, List.length_drop]; omega) (by omega)]
          cases hksK f (k + 1) p1 r <;> rfl
      · rw [h1, h2]
        dsimp only
        obtain ⟨j, b1, b2, b3, b4, b5⟩ := hkK_drop h1
        have hl : (markT :: r).length ≤ f := by rw [b1, List.length_drop]; omega
        cases f with
        | zero => simp at hl
        | succ f =>
          simp only [hksK]
          rw [if_neg (by simp), (mark_hk (k + 1) p1 r).1]
/-- a text as the code reads it -/
theorem prs_code (t : List UInt8) : prsT t = if 1048576 < t.length then .error (0, 9) else hksK (splitL t).length 0 0 (splitL t) := by
  unfold prsT
  split
  · rfl
  · exact hks_both _ (split_plain t) (Nat.le_refl _) (by omega)
end Go.Proofs.YtkmgblnofapccaaDoor

/- The code's reader, walked: the line between, the end of a side, a side. -/
namespace Go.Proofs.YtkmgblnofapccaaDoor
open Go.RowKit
attribute [local go_sem] ByteArray.extract_mk no_at

/-- all below B but the reader's block is as it was -/
structure Fr (B R : Nat) (w w' : World) : Prop where
  os : w'.os = w.os
  tape : w'.tape = w.tape
  output : w'.output = w.output
  size : w.heap.size ≤ w'.heap.size
  block : ∀ k, k < B → k ≠ R → w'.heap[k]? = w.heap[k]?
theorem Fr.refl (B R : Nat) (w : World) : Fr B R w w := ⟨rfl, rfl, rfl, Nat.le_refl _, fun _ _ _ => rfl⟩
theorem Fr.trans {B R : Nat} {w u v : World} (h : Fr B R w u) (h' : Fr B R u v) : Fr B R w v := ⟨h'.os.trans h.os, h'.tape.trans h.tape, h'.output.trans h.output, Nat.le_trans h.size h'.size, fun k h1 h2 => (h'.block k h1 h2).trans (h.block k h1 h2)⟩
theorem Fr.of {B R : Nat} {w u : World} (h : w.grownBy u (some R)) (hB : B ≤ w.heap.size) : Fr B R w u := ⟨h.os, h.tape, h.output, h.size, fun k h1 h2 => h.block k (Nat.lt_of_lt_of_le h1 hB) (fun e => h2 (Option.some.inj e))⟩
theorem Fr.own {B R : Nat} {w u : World} {g : Option Nat} (h : w.grownBy u g) (hB : B ≤ w.heap.size) (hg : ∀ j, g = some j → B ≤ j) : Fr B R w u := ⟨h.os, h.tape, h.output, h.size, fun k h1 _ => h.block k (Nat.lt_of_lt_of_le h1 hB) (fun e => by have := hg k e.symm; omega)⟩
theorem Fr.low {B R : Nat} {w u : World} (h : Below w.heap.size w u) (hB : B ≤ w.heap.size) : Fr B R w u := Fr.of (low_grown h _) hB
theorem Fr.grown {R : Nat} {w u : World} (h : Fr w.heap.size R w u) : w.grownBy u (some R) := ⟨h.os, h.tape, h.output, h.size, fun k h1 h2 => h.block k h1 (fun e => h2 (by rw [e]))⟩
end Go.Proofs.YtkmgblnofapccaaDoor

/- The code's reader, walked: the end of a side. -/
namespace Go.Proofs.YtkmgblnofapccaaDoor
open Go.RowKit
attribute [local go_sem] ByteArray.extract_mk no_at

theorem pkM_at {L : List (List UInt8)} (hP : Plain L) {p : Nat} (h : p < L.length) : pkM (L.drop p) = (L[p] == markT) := by
  rw [List.drop_eq_getElem_cons h]
  unfold pkM
  rw [Bool.eq_iff_iff, beq_iff_eq]
  constructor
  · intro q
    exact mark_eq (hP _ (List.getElem_mem h)) q
  · intro q
    rw [q]
    show markT.isPrefixOf markT = true
    decide
end Go.Proofs.YtkmgblnofapccaaDoor

/- The code's reader, walked: a side of a hunk. -/
namespace Go.Proofs.YtkmgblnofapccaaDoor
open Go.RowKit
attribute [local go_sem] ByteArray.extract_mk no_at

theorem owns_fr {w u : World} {B R : Nat} {e : TypeId} {s : Nat} {v : Value} {n : Nat} {xs : List Value} (h : w.ownsRow B e s v n xs) (hg : w.grownBy u (some R)) (hR : R < B) : u.ownsRow B e s v n xs := by
  refine ⟨h.1, ?_⟩
  rcases h.2 with q | ⟨g, cap, cur, rfl, q2, q3, q4⟩
  · exact .inl q
  · refine .inr ⟨g, cap, cur, rfl, q2, ?_, q4⟩
    rw [hg.block g (Array.getElem?_eq_some_iff.1 q3).1 (fun e => by cases e; omega)]
    exact q3
theorem pre_feed {sg s : List UInt8} (h : ∀ c ∈ sg, c ≠ 10) : Lib.hasPrefix (s ++ [10]) sg = sg.isPrefixOf s := by
  unfold Lib.hasPrefix
  rw [Bool.eq_iff_iff, List.isPrefixOf_iff_prefix, List.isPrefixOf_iff_prefix]
  constructor
  · intro hp
    have hp2 := List.prefix_iff_eq_take.1 hp
    by_cases hl : sg.length ≤ s.length
    · rw [List.take_append_of_le_length hl] at hp2
      exact List.prefix_iff_eq_take.2 hp2
    · exfalso
      have h3 : (s ++ [10]).take sg.length = s ++ [10] := List.take_of_length_le (by simp; omega)
      rw [h3] at hp2
      exact h 10 (by rw [hp2]; simp) rfl
  · rintro ⟨t, rfl⟩
    exact ⟨t ++ [10], by simp⟩
theorem trim_feed {sg s : List UInt8} (h : ∀ c ∈ sg, c ≠ 10) (hp : sg.isPrefixOf s = true) : Lib.trimPrefix (s ++ [10]) sg = s.drop sg.length ++ [10] := by
  unfold Lib.trimPrefix
  rw [pre_feed h, if_pos hp, List.drop_append_of_le_length]
  exact (List.isPrefixOf_iff_prefix.1 hp).length_le
def thenL (m : List Mk) (X : Except (Nat × Int) (List Mk × Nat × List (List UInt8))) : Except (Nat × Int) (List Mk × Nat × List (List UInt8)) :=
  match X with
  | .error e => .error e
  | .ok (l, p1, r) => .ok (m ++ l, p1, r)
theorem thenL_nil (X : Except (Nat × Int) (List Mk × Nat × List (List UInt8))) : thenL [] X = X := by
  unfold thenL
  rcases X with e | ⟨l, p, r⟩ <;> rfl
theorem rdL_succ {sg : List UInt8} {S : Int} {n p : Nat} {ls r : List (List UInt8)} {s : List UInt8} (h : nxt p ls = .ok (s, r)) (m : List Mk) : thenL m (rdL sg S (n + 1) p ls) = if sg.isPrefixOf s = true then thenL (m ++ [⟨S, s.drop sg.length ++ [10]⟩]) (rdL sg S n (p + 1) r) else .error (p + 1, 3) := by
  simp only [rdL]
  rw [h]
  dsimp only
  split
  · cases rdL sg S n (p + 1) r with
    | error e => rfl
    | ok z => simp [thenL]
  · rfl
theorem nxt_rest {p : Nat} {L r : List (List UInt8)} {s : List UInt8} (h : nxt p (L.drop p) = .ok (s, r)) : r = L.drop (p + 1) ∧ p < L.length ∧ ∃ hp : p < L.length, L[p] = s ++ [10] := by
  have h1 := nxt_ok h
  have hp : p < L.length := by
    by_cases h2 : p < L.length
    · exact h2
    · rw [List.drop_eq_nil_of_le (by omega)] at h1
      cases h1
  have h3 := List.drop_eq_getElem_cons hp
  rw [h3] at h1
  injection h1 with h4 h5
  exact ⟨h5.symm, hp, hp, h4⟩
end Go.Proofs.YtkmgblnofapccaaDoor

/- The code's reader, walked: a side of a hunk. -/
namespace Go.Proofs.YtkmgblnofapccaaDoor
open Go.RowKit
attribute [local go_sem] ByteArray.extract_mk no_at

/-- texts with their line feeds, none too long -/
def Fd (m : List Mk) : Prop := ∀ x ∈ m, fdB x.tx = true ∧ x.tx.length ≤ 1099511627776
theorem sdC_err {sg : List UInt8} {S : Int} {n p : Nat} {ls : List (List UInt8)} {e : Nat × Int} (h : rdL sg S n p ls = .error e) : sdC sg S n p ls = .error e := by
  unfold sdC
  rw [h]
end Go.Proofs.YtkmgblnofapccaaDoor

/- strings.IndexAny at the letters a, c, d, and strings.Cut at a comma, for every text. -/
namespace Go.Proofs.YtkmgblnofapccaaDoor
open Go.RowKit
attribute [local go_sem] no_at ByteArray.extract_mk

theorem ret_int1 {k : IntKind} {a b : Int} (h : a = b) : Ending.returned (.int k a) = .returned (.int k b) := by rw [h]
theorem get_bang (s : ByteArray) (k : Nat) (h : k < s.size) : s.get! k = s[k] := by
  simp [ByteArray.get!, getElem!_pos, h]
  rfl

/-- every byte of a letter that begins with a byte from 128 on is such a byte, and lies in the text -/
theorem decode_rest (s : ByteArray) (pos : Nat) (h : pos < s.size) (ha : 128 ≤ (s[pos]'h).toNat) (k : Nat) (hk : k < (Utf8.decode s pos).2) : ∃ hq : pos + k < s.size, 128 ≤ (s[pos + k]'hq).toNat := by
  by_cases hk0 : k = 0
  · subst hk0; exact ⟨h, ha⟩
  have hn : ¬ (s.get! (pos + 0)).toNat < 128 := by rw [Nat.add_zero, get_bang s pos h]; omega
  have key : ∀ j, (decide (pos + j < s.size) && (s.get! (pos + j)).toNat / 64 == 2) = true → ∃ hq : pos + j < s.size, 128 ≤ (s[pos + j]'hq).toNat := by
    intro j hj
    simp only [Bool.and_eq_true, decide_eq_true_eq, beq_iff_eq] at hj
    refine ⟨hj.1, ?_⟩
    rw [← get_bang s (pos + j) hj.1]
    omega
  revert hk
  unfold Utf8.decode
  simp only [hn, if_false]
  split
  · rename_i h2
    simp only [Bool.and_eq_true] at h2
    split
    · intro hk
      have : k = 1 := by simp at hk; omega
      subst this
      exact key 1 (by simp only [Bool.and_eq_true]; exact h2.2)
    · intro hk; simp at hk; omega
  · split
    · rename_i h2
      simp only [Bool.and_eq_true] at h2
      split
      · intro hk
        have : k = 1 ∨ k = 2 := by simp at hk; omega
        rcases this with rfl | rfl
        · exact key 1 (by simp only [Bool.and_eq_true]; exact h2.1.2)
        · exact key 2 (by simp only [Bool.and_eq_true]; exact h2.2)
      · intro hk; simp at hk; omega
    · split
      · rename_i h2
        simp only [Bool.and_eq_true] at h2
        split
        · intro hk
          have : k = 1 ∨ k = 2 ∨ k = 3 := by simp at hk; omega
          rcases this with rfl | rfl | rfl
          · exact key 1 (by simp only [Bool.and_eq_true]; exact h2.1.1.2)
          · exact key 2 (by simp only [Bool.and_eq_true]; exact h2.1.2)
          · exact key 3 (by simp only [Bool.and_eq_true]; exact h2.2)
        · intro hk; simp at hk; omega
      · intro hk; simp at hk; omega

theorem enc_form (r : Int) (hv : Utf8.valid r = true) (h128 : 128 ≤ r) : (∃ a b : UInt8, 128 ≤ b.toNat ∧ Utf8.encode r = ⟨([a, b] : List UInt8).toArray⟩) ∨ (∃ a b c : UInt8, 128 ≤ c.toNat ∧ Utf8.encode r = ⟨([a, b, c] : List UInt8).toArray⟩) ∨ (∃ a b c d : UInt8, Utf8.encode r = ⟨([a, b, c, d] : List UInt8).toArray⟩) := by
  have hc : ¬ r.toNat < 128 := by omega
  unfold Utf8.encode
  simp only [hv, if_true, hc, if_false]
  split
  · refine .inl ⟨_, _, ?_, rfl⟩
    simp; omega
  · split
    · refine .inr (.inl ⟨_, _, _, ?_, rfl⟩)
      simp; omega
    · exact .inr (.inr ⟨_, _, _, _, rfl⟩)

theorem valid_of (r : Int) (h : Lib.validRune r = true) : Utf8.valid r = true := by
  simp [Lib.validRune, Utf8.valid] at h ⊢
  omega

theorem idx_three (x : UInt8) : Lib.indexByte [97, 99, 100] x = if x.toNat = 97 then 0 else if x.toNat = 99 then 1 else if x.toNat = 100 then 2 else -1 := by
  have key : ∀ i : Fin 256, Lib.indexByte [97, 99, 100] (UInt8.ofNat i.val) = if i.val = 97 then 0 else if i.val = 99 then 1 else if i.val = 100 then 2 else -1 := by decide +kernel
  have := key ⟨x.toNat, x.toNat_lt⟩
  simpa using this
theorem isC_nat (x : UInt8) : isC x = decide (x.toNat = 97 ∨ x.toNat = 99 ∨ x.toNat = 100) := by
  rw [Bool.eq_iff_iff]
  simp [isC, ← UInt8.toNat_inj, or_assoc]

def idxB (x : UInt8) : Int := Lib.indexByte [97, 99, 100] x
theorem idxB_yes {x : UInt8} (h : isC x = true) : 0 ≤ idxB x := by
  rw [isC_nat] at h
  have h := of_decide_eq_true h
  unfold idxB; rw [idx_three]; split <;> (try split) <;> (try split) <;> omega
theorem idxB_no {x : UInt8} (h : isC x = false) : idxB x < 0 := by
  rw [isC_nat] at h
  have h := of_decide_eq_false h
  unfold idxB; rw [idx_three]; split <;> (try split) <;> (try split) <;> omega
theorem contains_three (c : UInt8) : ([97, 99, 100] : List UInt8).contains c = isC c := by
  rw [Bool.eq_iff_iff]
  simp [isC, or_assoc]
/-- where the first of the three letters is, or -1 -/
def wend (l : List UInt8) : Int := Lib.indexAny l [97, 99, 100]
theorem wend_at : ∀ (l : List UInt8) (k : Nat) (hk : k < l.length), (∀ j (h : j < l.length), j < k → isC l[j] = false) → isC l[k] = true → wend l = k
  | b :: l, 0, _, _, h => by
    unfold wend Lib.indexAny
    rw [contains_three, if_pos (by simpa using h)]
    rfl
  | b :: l, k + 1, hk, ha, h => by
    have h0 := ha 0 (by simp) (by omega)
    have ih := wend_at l k (by simpa using hk) (fun j hj hjk => ha (j + 1) (by simp; omega) (by omega)) (by simpa using h)
    unfold wend at ih ⊢
    unfold Lib.indexAny
    rw [contains_three, if_neg (by simpa using h0), ih]
    rw [if_neg (by simp)]
    omega

theorem wend_none : ∀ (l : List UInt8), (∀ j (h : j < l.length), isC l[j] = false) → wend l = -1
  | [], _ => rfl
  | b :: l, ha => by
    have h0 := ha 0 (by simp)
    have ih := wend_none l (fun j hj => ha (j + 1) (by simp; omega))
    unfold wend at ih ⊢
    unfold Lib.indexAny
    rw [contains_three, if_neg (by simpa using h0), ih]
    rfl

/-- where the first letter is, as the plain reader says -/
theorem wend_sp (l : List UInt8) : (spB isC l = none ∧ wend l = -1) ∨ (∃ k : Nat, ∃ h : k < l.length, wend l = k ∧ spB isC l = some (l.take k, l[k], l.drop (k + 1)) ∧ isC l[k] = true) := by
  induction l with
  | nil => exact .inl ⟨rfl, rfl⟩
  | cons c l ih =>
    unfold wend Lib.indexAny
    rw [contains_three]
    simp only [spB]
    cases hc : isC c with
    | true =>
      right
      refine ⟨0, by simp, by simp, by simp, by simpa using hc⟩
    | false =>
      rw [if_neg (by decide), if_neg (by decide)]
      rcases ih with ⟨h1, h2⟩ | ⟨k, hk, h1, h2, h3⟩
      · left
        unfold wend at h2
        rw [h1, h2]
        exact ⟨rfl, rfl⟩
      · right
        unfold wend at h1
        refine ⟨k + 1, by simpa using hk, ?_, ?_, by simpa using h3⟩
        · rw [h1, if_neg (by simp)]
          omega
        · rw [h2]
          rfl
/-- where a comma is -/
theorem comma_sp (l : List UInt8) : (spB isK l = none ∧ Lib.indexByte l 44 = -1) ∨ (∃ k : Nat, ∃ h : k < l.length, Lib.indexByte l 44 = k ∧ spB isK l = some (l.take k, l[k], l.drop (k + 1))) := by
  induction l with
  | nil => exact .inl ⟨rfl, rfl⟩
  | cons c l ih =>
    unfold Lib.indexByte
    simp only [spB]
    have e : (c == 44) = isK c := rfl
    rw [e]
    cases hc : isK c with
    | true =>
      right
      exact ⟨0, by simp, by simp, by simp⟩
    | false =>
      rw [if_neg (by decide), if_neg (by decide)]
      rcases ih with ⟨h1, h2⟩ | ⟨k, hk, h1, h2⟩
      · left
        rw [h1, h2]
        exact ⟨rfl, rfl⟩
      · right
        refine ⟨k + 1, by simpa using hk, ?_, ?_⟩
        · rw [h1, if_neg (by simp)]
          omega
        · rw [h2]
          rfl
end Go.Proofs.YtkmgblnofapccaaDoor

/- The code's numbers and change of layer 12, walked: a range of lines, a line that says a change. -/
namespace Go.Proofs.YtkmgblnofapccaaDoor
open Go.RowKit
attribute [local go_sem] ByteArray.extract_mk no_at

/-- what is ahead of the first comma, and behind it -/
def kA (l : List UInt8) : List UInt8 := match spB isK l with | none => l | some (x, _, _) => x
def kB (l : List UInt8) : List UInt8 := match spB isK l with | none => [] | some (_, _, y) => y
def kS (l : List UInt8) : Bool := match spB isK l with | none => false | some _ => true
set_option maxHeartbeats 2000000 in
theorem slCut_f (l : List UInt8) (w : World) (hl : l.length ≤ 1099511627776) :
    Calls Tryd.prog 64 #[.string ⟨l.toArray⟩, .string ⟨#[44]⟩] w fun e w' => e = .returned (.tuple #[.string ⟨(kA l).toArray⟩, .string ⟨(kB l).toArray⟩, .bool (kS l)]) ∧ ∃ n, w' = w.drewN n := by
  rcases comma_sp l with ⟨h1, h2⟩ | ⟨k, hk, h1, h2⟩
  · have HA : Hid (kA l = l ∧ kB l = [] ∧ kS l = false) := (by unfold kA kB kS; rw [h1]; exact ⟨rfl, rfl, rfl⟩)
    have HI : Hid (Lib.indexByte l 44 = -1) := h2
    clear h1 h2
    go_enter Tryd.func64, Tryd.ntmps64
    go_wp2_with fail
    refine (Tryd.stringslite_Index_one ⟨l.toArray⟩ 44 w).mono ?_
    rintro e w1 ⟨rfl, rfl⟩
    have e1 : Lib.indexByte (⟨l.toArray⟩ : ByteArray).data.toList 44 = -1 := HI.out
    rw [e1]
    clear e1
    go_wp2
    go_ret3
    obtain ⟨a1, a2, a3⟩ := HA.out
    rw [a1, a2, a3]
    exact ⟨rfl, 0, rfl⟩
  · have HA : Hid (kA l = l.take k ∧ kB l = l.drop (k + 1) ∧ kS l = true) := (by unfold kA kB kS; rw [h2]; exact ⟨rfl, rfl, rfl⟩)
    have HI : Hid (Lib.indexByte l 44 = (k : Int)) := h1
    clear h1 h2
    go_enter Tryd.func64, Tryd.ntmps64
    go_wp2_with fail
    refine (Tryd.stringslite_Index_one ⟨l.toArray⟩ 44 w).mono ?_
    rintro e w1 ⟨rfl, rfl⟩
    have e1 : Lib.indexByte (⟨l.toArray⟩ : ByteArray).data.toList 44 = (k : Int) := HI.out
    rw [e1]
    clear e1
    have i1 : (0 : Int) ≤ (k : Int) := by omega
    have i2 : (k : Int) ≤ (l.length : Int) := by omega
    have i3 : (k : Int) + 1 ≤ (l.length : Int) := by omega
    have i4 : (0 : Int) ≤ (k : Int) + 1 := by omega
    have i5 : IntKind.i64.wrap ((k : Int) + 1) = (k : Int) + 1 := wrap_s (by omega) (by omega)
    have i6 : ((k : Int) + 1).toNat = k + 1 := by omega
    go_wp2_with fail
    go_quiet (fail)
    go_wp2
    go_ret3
    obtain ⟨a1, a2, a3⟩ := HA.out
    rw [a1, a2, a3]
    have k5 : (l.drop (k + 1)).take (l.length - (k + 1)) = l.drop (k + 1) := List.take_of_length_le (by simp)
    exact ⟨by simp [k5], _, rfl⟩
set_option maxHeartbeats 1000000 in
theorem nCut_f (l : List UInt8) (w : World) (hl : l.length ≤ 1099511627776) :
    Calls Tryd.prog 53 #[.string ⟨l.toArray⟩, .string ⟨#[44]⟩] w fun e w' => e = .returned (.tuple #[.string ⟨(kA l).toArray⟩, .string ⟨(kB l).toArray⟩, .bool (kS l)]) ∧ ∃ n, w' = w.drewN n := by
  go_enter Tryd.func53, Tryd.ntmps53
  go_wp2_with fail
  refine (slCut_f l w hl).mono ?_
  rintro e w1 ⟨rfl, n, rfl⟩
  go_wp2
  go_ret3
  exact ⟨rfl, n, rfl⟩
/-- a text with a comma is no number -/
theorem comma_no {s : List UInt8} (h : kS s = true) : Pn.parseE s ≠ 0 := by
  unfold kS at h
  rcases comma_sp s with ⟨h1, _⟩ | ⟨k, hk, _, h2⟩
  · rw [h1] at h
    cases h
  · have hc : isK s[k] = true := (by
      have : ∀ (l : List UInt8) {a b : List UInt8} {c : UInt8}, spB isK l = some (a, c, b) → isK c = true := (by
        intro l
        induction l with
        | nil => intro a b c h; cases h
        | cons x l ih =>
          intro a b c h
          simp only [spB] at h
          split at h
          · rename_i hx
            cases h
            exact hx
          · split at h
            · cases h
            · rename_i hq
              cases h
              exact ih hq)
      exact this s h2)
    have hn : Pn.isNum s = false := Pn.isNum_bad k hk (by
      unfold isK at hc
      have : s[k] = 44 := by simpa using hc
      rw [this]
      decide)
    have := (Pn.parse_no hn).2
    omega
/-- a range, or the line ahead -/
def nmP (no : Bool) (s : List UInt8) : Option (Int × Int) := if no = true then oneP s else lnsP s
theorem kA_self {s : List UInt8} (h : kS s = false) : kA s = s ∧ spB isK s = none := by
  unfold kS at h
  unfold kA
  cases hq : spB isK s with
  | none => exact ⟨rfl, rfl⟩
  | some q => rw [hq] at h; cases h
theorem kS_some {s : List UInt8} (h : kS s = true) : ∃ c, spB isK s = some (kA s, c, kB s) := by
  unfold kS at h
  unfold kA kB
  cases hq : spB isK s with
  | none => rw [hq] at h; cases h
  | some q => exact ⟨q.2.1, rfl⟩
theorem nm_bad {no : Bool} {s : List UInt8} (h : Pn.parseE (kA s) ≠ 0) : nmP no s = none := by
  unfold nmP
  cases hk : kS s with
  | true =>
    obtain ⟨c, hc⟩ := kS_some hk
    have h2 := comma_no hk
    cases no with
    | true =>
      unfold oneP
      rw [if_pos rfl, if_neg h2]
    | false =>
      unfold lnsP
      rw [if_neg (by decide), hc]
      exact if_neg (fun q => h q.1)
  | false =>
    obtain ⟨h1, h2⟩ := kA_self hk
    rw [h1] at h
    cases no with
    | true =>
      unfold oneP
      rw [if_pos rfl, if_neg h]
    | false =>
      unfold lnsP
      rw [if_neg (by decide), h2]
      exact if_neg (fun q => h q.1)
theorem kA_le (s : List UInt8) : (kA s).length ≤ s.length ∧ (kB s).length ≤ s.length := by
  unfold kA kB
  rcases comma_sp s with ⟨h1, _⟩ | ⟨k, hk, _, h2⟩
  · rw [h1]; simp
  · rw [h2]; simp only [List.length_take, List.length_drop]; omega
/-- what numbers answers -/
def NmQ (w : World) (no : Bool) (s : List UInt8) (e : Ending) (w' : World) : Prop := ∃ x n r, e = .returned (.tuple #[.int .i64 x, .int .i64 n, .bool r]) ∧ nmP no s = (if r = true then some (x, n) else none) ∧ Below w.heap.size w w'
end Go.Proofs.YtkmgblnofapccaaDoor

/- The reference's line that says a change, walked. -/
namespace Go.Proofs.YtkmgblnofapccaaDoor
open Go.RowKit
attribute [local go_sem] ByteArray.extract_mk no_at

theorem LnsP.out {s : List UInt8} {x : Ending} (h : LnsP s x) : ∃ A N b, x = .returned (.tuple #[.int .i64 A, .int .i64 N, .bool b]) ∧ lnsP s = if b = true then some (A, N) else none := by
  unfold LnsP at h
  cases hl : lnsP s with
  | none =>
    rw [hl] at h
    obtain ⟨A, N, rfl⟩ := h
    exact ⟨A, N, false, rfl, rfl⟩
  | some z =>
    obtain ⟨A, N⟩ := z
    rw [hl] at h
    exact ⟨A, N, true, h, rfl⟩
/-- what a line that says a change is read as -/
def CmdP (s : List UInt8) (x : Ending) : Prop :=
  match cmdP s with
  | some (A, AN, B, BN) => x = .returned (.tuple #[hkV ⟨A, AN, B, BN, []⟩ (.slice none 0 0), .bool true])
  | none => ∃ A AN B BN, x = .returned (.tuple #[hkV ⟨A, AN, B, BN, []⟩ (.slice none 0 0), .bool false])
theorem CmdP.off {s : List UInt8} (h : ∀ j (hj : j < s.length), isC s[j] = false) : CmdP s (.returned (.tuple #[hkV ⟨0, 0, 0, 0, []⟩ (.slice none 0 0), .bool false])) := by
  unfold CmdP cmdP
  rw [spB_off s h]
  exact ⟨0, 0, 0, 0, rfl⟩
section
variable {u : World} {b : Nat} {h : Hk} {v : Value}
end
theorem cm_low {w u : World} (h : Below w.heap.size w u) (z0 z1 z2 z3 z4 : Value) : Below w.heap.size w (((((u.setCell ⟨w.heap.size, 0, none⟩ z0).setCell ⟨w.heap.size, 1, none⟩ z1).setCell ⟨w.heap.size, 2, none⟩ z2).setCell ⟨w.heap.size, 3, none⟩ z3).setCell ⟨w.heap.size, 4, none⟩ z4) :=
  ((((h.setCell (Nat.le_refl _) _).setCell (Nat.le_refl _) _).setCell (Nat.le_refl _) _).setCell (Nat.le_refl _) _).setCell (Nat.le_refl _) _
theorem CmdP.mk {s : List UInt8} {k : Nat} {c : UInt8} (hk : k < s.length) (hc : s[k] = c) (h1 : isC c = true) (h2 : ∀ j (hj : j < k), isC (s[j]'(by omega)) = false) {x y : List UInt8} (hx : s.take k = x) (hy : s.drop (k + 1) = y)
    {A AN B BN : Int} {b1 b2 b : Bool} (hA : (if c = 97 then oneP x else lnsP x) = if b1 = true then some (A, AN) else none) (hB : (if c = 100 then oneP y else lnsP y) = if b2 = true then some (B, BN) else none) (hb : (b1 && b2) = b) :
    CmdP s (.returned (.tuple #[hkV ⟨A, AN, B, BN, []⟩ (.slice none 0 0), .bool b])) := by
  unfold CmdP cmdP
  rw [spB_at s k hk (by rw [hc]; exact h1) h2]
  dsimp only
  rw [hx, hy, hc, hA, hB]
  cases b1 <;> cases b2 <;> cases hb
  · exact ⟨_, _, _, _, rfl⟩
  · exact ⟨_, _, _, _, rfl⟩
  · exact ⟨_, _, _, _, rfl⟩
  · rfl
theorem one_if {x : List UInt8} {v e : Int} (hv : Pn.parseV x = v) (he : Pn.parseE x = e) : oneP x = if decide (e = 0) = true then some (v, 0) else none := by
  unfold oneP
  rw [hv, he]
  by_cases h : e = 0 <;> simp [h]
end Go.Proofs.YtkmgblnofapccaaDoor

/- The code's change of layer 12, walked: a line that says a change. -/
namespace Go.Proofs.YtkmgblnofapccaaDoor
open Go.RowKit
attribute [local go_sem] ByteArray.extract_mk no_at

theorem low_drw {W u : World} (h : Low W u) : Low W u.drew := Below.drew h
theorem exec_slTo {u : World} {s x : List UInt8} {k : Nat} (hk : k ≤ s.length) (hx : s.take k = x) {op : Oper} (p q : Operand) (ho : op.op = .slice 9 p none (some q) none) {ev : Operand → Value} (h1 : ev p = .string ⟨s.toArray⟩) (h2 : ev q = .int .i64 (k : Int)) :
    (execOp ev op).run Tryd.prog u = .ok (.value (.string ⟨x.toArray⟩)) u := by
  have i1 : (0 : Int) ≤ (k : Int) := by omega
  have i2 : (k : Int) ≤ (s.length : Int) := by omega
  subst hx
  simp only [execOp, ho, h1, h2, Option.map]
  go_simp
theorem exec_slFrom {u : World} {s y : List UInt8} {k : Nat} (hk : k < s.length) (hy : s.drop (k + 1) = y) {op : Oper} (p q : Operand) (ho : op.op = .slice 9 p (some q) none none) {ev : Operand → Value} (h1 : ev p = .string ⟨s.toArray⟩) (h2 : ev q = .int .i64 ((k : Int) + 1)) :
    (execOp ev op).run Tryd.prog u = .ok (.value (.string ⟨y.toArray⟩)) u := by
  have i1 : (0 : Int) ≤ (k : Int) + 1 := by omega
  have i2 : (k : Int) + 1 ≤ (s.length : Int) := by omega
  have i3 : ((k : Int) + 1).toNat = k + 1 := by omega
  subst hy
  have k5 : (s.drop (k + 1)).take (s.length - (k + 1)) = s.drop (k + 1) := List.take_of_length_le (by simp)
  simp only [execOp, ho, h1, h2, Option.map]
  go_simp
theorem exec_ixS {u : World} {s : List UInt8} {k : Nat} {c : UInt8} (hk : k < s.length) (hc : s[k] = c) {op : Oper} (p q : Operand) (ho : op.op = .index 9 p q) {ev : Operand → Value} (h1 : ev p = .string ⟨s.toArray⟩) (h2 : ev q = .int .i64 (k : Int)) :
    (execOp ev op).run Tryd.prog u = .ok (.value (.int .u8 (c.toNat : Int))) u := by
  have i1 : (0 : Int) ≤ (k : Int) := by omega
  have i2 : (k : Int) < (s.length : Int) := by omega
  subst hc
  simp only [execOp, ho, h1, h2]
  go_simp
theorem u8_eq (c d : UInt8) : ((c.toNat : Int) == (d.toNat : Int)) = (c == d) := by
  rw [Bool.eq_iff_iff, beq_iff_eq, beq_iff_eq, ← UInt8.toNat_inj]
  omega
theorem exec_eq8 {u : World} {a b : Int} {r : Bool} {op : Oper} (p q : Operand) (ho : op.op = .binOp .eql 5 p q 5) {ev : Operand → Value} (h1 : ev p = .int .u8 a) (h2 : ev q = .int .u8 b) (hr : (a == b) = r) :
    (execOp ev op).run Tryd.prog u = .ok (.value (.bool r)) u := by
  simp only [execOp, ho, h1, h2]
  go_simp
theorem exec_addI {u : World} {p q : Int} (h : IntKind.i64.wrap (p + q) = p + q) {op : Oper} (x y : Operand) (ho : op.op = .binOp .add 3 x y 3) {ev : Operand → Value} (hx : ev x = .int .i64 p) (hy : ev y = .int .i64 q) :
    (execOp ev op).run Tryd.prog u = .ok (.value (.int .i64 (p + q))) u := by
  simp only [execOp, ho, hx, hy]
  go_simp
end Go.Proofs.YtkmgblnofapccaaDoor

/- The code's reader, walked: a hunk. -/
namespace Go.Proofs.YtkmgblnofapccaaDoor
open Go.RowKit
attribute [local go_sem] ByteArray.extract_mk no_at

theorem grown_fr {R B : Nat} {w u v : World} (h : w.grownBy u (some R)) (h' : Fr B R u v) (hB : w.heap.size ≤ B) : w.grownBy v (some R) :=
  ⟨h'.os.trans h.os, h'.tape.trans h.tape, h'.output.trans h.output, Nat.le_trans h.size h'.size, fun k h1 h2 => (h'.block k (Nat.lt_of_lt_of_le h1 hB) (fun e => h2 (by rw [e]))).trans (h.block k h1 h2)⟩
def hkEnd (A AN B BN : Int) (l1 : List Mk) (X2 : Except (Nat × Int) (List Mk × Nat × List (List UInt8))) : Except (Nat × Int) (Hk × Nat × List (List UInt8)) :=
  match X2 with
  | .error e => .error e
  | .ok (l2, p3, r3) => .ok (⟨A, AN, B, BN, l1 ++ l2⟩, p3, r3)
end Go.Proofs.YtkmgblnofapccaaDoor

/- The code's read of layer 12, walked: what is thrown is caught. -/
namespace Go.Proofs.YtkmgblnofapccaaDoor
open Go.RowKit

end Go.Proofs.YtkmgblnofapccaaDoor

/- Steps of a region that draws its order where a call may throw, and what is left where a call is recovered. -/
namespace Go.Proofs.YtkmgblnofapccaaDoor
open Go.RowKit

/-- a post that says of a panic what it leaves in memory and in three places of the frame -/
def PanQ (Q : Exit → Act → World → Prop) (Pn : List PanicEntry → World → Prop) (p2 p3 : Value) (ds : List Deferred) : Exit → Act → World → Prop
  | .panic c, a, w => Pn c w ∧ a.tmps.getD 2 undef = p2 ∧ a.tmps.getD 3 undef = p3 ∧ a.defers = ds
  | .normal, a, w => Q .normal a w
  | _, _, _ => False
theorem PanQ.normal {Q : Exit → Act → World → Prop} {Pn : List PanicEntry → World → Prop} {p2 p3 : Value} {ds : List Deferred} {a : Act} {w : World} (h : Q .normal a w) : PanQ Q Pn p2 p3 ds .normal a w := h
theorem wp_region_panQ {P : Program} {id : Nat} {ops : Array Oper} {b : Bool} {Q : Exit → Act → World → Prop} {a : Act} {w : World} (Pn : List PanicEntry → World → Prop) (p2 p3 : Value) (ds : List Deferred) (hP : ∀ c a w, Pn c w → a.tmps.getD 2 undef = p2 → a.tmps.getD 3 undef = p3 → a.defers = ds → Q (.panic c) a w) (h : (Code.region id ops b).wp P (PanQ Q Pn p2 p3 ds) a w) : (Code.region id ops b).wp P Q a w := by
  refine Code.wp_mono (fun e a w h => ?_) h
  cases e with
  | panic c => exact hP c a w h.1 h.2.1 h.2.2.1 h.2.2.2
  | normal => exact h
  | _ => exact (h : False).elim
theorem panQ_put {Q : Exit → Act → World → Prop} {Pn : List PanicEntry → World → Prop} {p2 p3 : Value} {ds : List Deferred} {d : Nat} {v : Value} (h2 : d ≠ 2) (h3 : d ≠ 3) : ∀ c a w, PanQ Q Pn p2 p3 ds (.panic c) (a.put (some d) v) w → PanQ Q Pn p2 p3 ds (.panic c) a w := by
  rintro c a w ⟨x1, x2, x3, x4⟩
  refine ⟨x1, ?_, ?_, x4⟩
  · rw [← x2]
    simp [Act.put, Array.getD_eq_getD_getElem?, Array.getElem?_setIfInBounds_ne h2]
  · rw [← x3]
    simp [Act.put, Array.getD_eq_getD_getElem?, Array.getElem?_setIfInBounds_ne h3]
theorem call_enters {P : Program} {A : Act} {op : Oper} {w : World} {F : Nat} {x : Operand} {xs : Array Operand} {ts : Array TypeId} (ho : op.op = .call { callee := .value x, args := xs, argTypes := ts }) {cap : Array Value} (hxv : A.eval x = .func (.func F) #[] cap) {args : Array Value} (hx : xs.map A.eval = args) (hen : ∀ args w, (callFunc F args).run P w = .ok (.enter F args) w) : (execOp A.eval op).run P w = .ok (.enter F (args ++ cap)) w := by
  have h1 := hen (args ++ cap) w
  simp only [execOp, ho, resolve, invoke]
  simp only [hxv, Deferred.ofValue, Sem.run_bind, Sem.run_pure, Result.andThen_ok, hx, Array.empty_append]
  exact h1
/-- a call that may throw, where nothing else may come up -/
theorem go_callP {P : Program} {S : World → Prop} {md : Region.Mode} {ops : Array Oper} {Q : Exit → Act → World → Prop} {fuel : Nat} {listed : Array Bool} {A : Act} {w : World}
    (i d : Nat) (op : Oper) (hi : ops[i]? = some op) (hd : op.dst = some d) (hr : Region.ready md ops listed = [i]) (hwt : Region.wanted op (yielded ops A.tmps) = true)
    (F : Nat) (x : Operand) (xs : Array Operand) (ts : Array TypeId) (ho : op.op = .call { callee := .value x, args := xs, argTypes := ts })
    (cap : Array Value) (hxv : A.eval x = .func (.func F) #[] cap) (args : Array Value) (hx : xs.map A.eval = args) (hen : ∀ args w, (callFunc F args).run P w = .ok (.enter F args) w) (R : Value → World → Prop) (Pn : List PanicEntry → World → Prop)
    (hp : ∀ c w', Pn c w' → Q (.panic c) A w')
    (hc : Calls P F (args ++ cap) w fun e w' => (∃ v, e = .returned v ∧ S w' ∧ R v w') ∨ (∃ c, e = .panicked c ∧ Pn c w'))
    (h : ∀ v w', S w' → R v w' → wpAnyH P md ops Q S fuel (listed.setIfInBounds i true) (A.put (some d) v) w') :
    wpAnyH P md ops Q S (fuel + 1) listed A w := by
  refine wpAnyH_ready hr (by simp) (AllReadyH.cons hi (fun K hK => ?_) AllReadyH.nil)
  refine step_want hwt ?_
  unfold Oper.wp
  rw [call_enters ho hxv hx hen, Oper.upon_enter]
  refine hc.mono ?_
  rintro e w' (⟨v, rfl, hb, hR⟩ | ⟨c, rfl, hpn⟩)
  · exact hK.out _ _ hb (fun hu => by rw [hd]; exact h v w' hu hR)
  · exact hp c w' hpn
/-- a value and a call that may throw, whichever comes first -/
theorem go_valCallP {P : Program} {S : World → Prop} {md : Region.Mode} {ops : Array Oper} {Q : Exit → Act → World → Prop} {fuel : Nat} {listed : Array Bool} {A : Act} {w : World}
    (j e : Nat) (oq : Oper) (i d : Nat) (op : Oper) (hj : ops[j]? = some oq) (he : oq.dst = some e) (hi : ops[i]? = some op) (hd : op.dst = some d) (hr : Region.ready md ops listed = [j, i]) (hwq : Region.wanted oq (yielded ops A.tmps) = true) (hwt : Region.wanted op (yielded ops A.tmps) = true)
    (vq : Value) (wq : World) (hq : (execOp A.eval oq).run P w = .ok (.value vq) wq) (hS : S wq)
    (F : Nat) (x : Operand) (xs : Array Operand) (ts : Array TypeId) (ho : op.op = .call { callee := .value x, args := xs, argTypes := ts })
    (cap : Array Value) (hxv : A.eval x = .func (.func F) #[] cap) (args : Array Value) (hx : xs.map A.eval = args) (hen : ∀ args w, (callFunc F args).run P w = .ok (.enter F args) w) (R : Value → World → Prop) (Pn : List PanicEntry → World → Prop)
    (hp : ∀ c w', Pn c w' → Q (.panic c) A w')
    (hc : Calls P F (args ++ cap) w fun e w' => (∃ v, e = .returned v ∧ S w' ∧ R v w') ∨ (∃ c, e = .panicked c ∧ Pn c w'))
    (h2 : wpAnyH P md ops Q S fuel (listed.setIfInBounds j true) (A.put (some e) vq) wq)
    (h : ∀ v w', S w' → R v w' → wpAnyH P md ops Q S fuel (listed.setIfInBounds i true) (A.put (some d) v) w') :
    wpAnyH P md ops Q S (fuel + 1) listed A w := by
  refine wpAnyH_ready hr (by simp) (AllReadyH.cons hj (fun K hK => ?_) (AllReadyH.cons hi (fun K hK => ?_) AllReadyH.nil))
  · refine step_want hwq ?_
    unfold Oper.wp
    rw [hq, Oper.upon_value]
    exact hK.out _ _ hS (fun _ => by rw [he]; exact h2)
  · refine step_want hwt ?_
    unfold Oper.wp
    rw [call_enters ho hxv hx hen, Oper.upon_enter]
    refine hc.mono ?_
    rintro e w' (⟨v, rfl, hb, hR⟩ | ⟨c, rfl, hpn⟩)
    · exact hK.out _ _ hb (fun hu => by rw [hd]; exact h v w' hu hR)
    · exact hp c w' hpn
end Go.Proofs.YtkmgblnofapccaaDoor

/- The code's read of layer 12, walked: the hunks of all lines, or what was thrown. -/
namespace Go.Proofs.YtkmgblnofapccaaDoor
open Go.RowKit

theorem own_box {u : World} {B : Nat} {e t : TypeId} {s : Nat} {v : Value} {n k : Nat} {xs : List Value} {cs : Array Value} {fr : Nat × Nat} (h : u.ownsRow B e s v n xs) (hb : u.heap[k]? = some (.cells cs t fr)) (he : e ≠ t) : v.ownBlock ≠ some k := by
  intro hg
  rcases h.2 with ⟨rfl, _⟩ | ⟨g, cap, cur, rfl, _, hg2, _⟩
  · cases hg
  · simp [Value.ownBlock] at hg
    subst hg
    rw [hb] at hg2
    simp at hg2
    exact he hg2.2.1.symm
/-- where a reader stands -/
def ryAt (u : World) (R : Nat) : Nat := match u.heap[R]? with
  | some (.cells cs _ _) => match cs[1]? with
    | some (Value.int _ p) => p.toNat
    | _ => 0
  | _ => 0
section
variable {w u u' : World} {vL ov : Value} {P : List (Hk × Value)} {p p' : Int}
end
def thenH (l : List Hk) (X : Except (Nat × Int) (List Hk)) : Except (Nat × Int) (List Hk) :=
  match X with
  | .error e => .error e
  | .ok m => .ok (l ++ m)
end Go.Proofs.YtkmgblnofapccaaDoor

/- The reference's hunk of layer 12: what its variables hold. -/
namespace Go.Proofs.YtkmgblnofapccaaDoor
open Go.RowKit

section
variable {w u u' : World} {R H : Nat} {A AN B BN : Int} {m : List Mk} {ov : Value} {vL : Value} {p fa fe : Int}
theorem Rx.low (q : Rx u R vL p fa fe) (hb : Below u.heap.size u u') : Rx u' R vL p fa fe := (hb.block R q.lt).trans q
theorem Rx.keep (q : Rx u R vL p fa fe) {g : Option Nat} (hg : u.grownBy u' g) (hr : some R ≠ g) : Rx u' R vL p fa fe := (hg.block R q.lt hr).trans q
end
theorem rdN_take {sg : List UInt8} {S : Int} {n p p1 : Nat} {ls r : List (List UInt8)} {t : List UInt8} {last : Bool} (hl : (n == 0) = last) (h : mkd sg last p ls = .ok (t, p1, r)) (m : List Mk) : thenL m (rdN sg S (n + 1) p ls) = thenL (m ++ [⟨S, t⟩]) (rdN sg S n p1 r) := by
  simp only [rdN]
  rw [hl, h]
  dsimp only
  rcases rdN sg S n p1 r with e | ⟨l, p2, r2⟩
  · rfl
  · simp [thenL]
theorem rdN_stop {sg : List UInt8} {S : Int} {n p : Nat} {ls : List (List UInt8)} {e : Nat × Int} {last : Bool} (hl : (n == 0) = last) (h : mkd sg last p ls = .error e) (m : List Mk) : thenL m (rdN sg S (n + 1) p ls) = .error e := by
  simp only [rdN]
  rw [hl, h]
  rfl
theorem mkd_le {sg : List UInt8} {last : Bool} {p p1 : Nat} {ls r : List (List UInt8)} {t : List UInt8} (h : mkd sg last p ls = .ok (t, p1, r)) : p1 ≤ p + 2 := by
  unfold mkd at h
  split at h
  · cases h
  · split at h
    · split at h
      · split at h
        · cases h
        · cases h
          omega
      · cases h
        omega
    · cases h
/-- where the reader stands -/
def AlR (R : Nat) (vL : Value) (L : List (List UInt8)) (fa : Int) (sg : List UInt8) (S : Int) (Y : Except (Nat × Int) (List Mk × Nat × List (List UInt8))) (b n : Nat) (m : List Mk) (u : World) : Prop :=
  (∃ pn : Nat, Rx u R vL (pn : Int) fa 0 ∧ pn ≤ b ∧ thenL m (rdN sg S n pn (L.drop pn)) = Y) ∨ (∃ (p' : Int) (a : Nat) (fe : Int), Rx u R vL p' (a : Int) fe ∧ fe ≠ 0 ∧ Y = .error (a, fe))
/-- where the reader stands behind a line's text t -/
def NxR (R : Nat) (vL : Value) (L : List (List UInt8)) (fa : Int) (sg : List UInt8) (S : Int) (Y : Except (Nat × Int) (List Mk × Nat × List (List UInt8))) (b n : Nat) (m : List Mk) (t : List UInt8) (u : World) : Prop := AlR R vL L fa sg S Y b n (m ++ [⟨S, t⟩]) u
theorem NxR.on {R : Nat} {vL : Value} {L : List (List UInt8)} {fa : Int} {sg : List UInt8} {S : Int} {Y : Except (Nat × Int) (List Mk × Nat × List (List UInt8))} {b n : Nat} {m : List Mk} {t : List UInt8} {u u' : World} (h : NxR R vL L fa sg S Y b n m t u) (hk : ∀ {vL : Value} {p fa fe : Int}, Rx u R vL p fa fe → Rx u' R vL p fa fe) : AlR R vL L fa sg S Y b n (m ++ [⟨S, t⟩]) u' := by
  rcases h with ⟨pn, h1, h2, h3⟩ | ⟨p', a, fe, h1, h2, h3⟩
  · exact .inl ⟨pn, hk h1, h2, h3⟩
  · exact .inr ⟨p', a, fe, hk h1, h2, h3⟩
theorem sub_one {u : World} {z : Int} (h0 : 0 ≤ z) (h1 : z ≤ 4398046511104) {op : Oper} (x : Operand) (ho : op.op = .binOp .sub 3 x (.const (.int .i64 1)) 3) {ev : Operand → Value} (hx : ev x = .int .i64 z) (hc : ev (.const (.int .i64 1)) = .int .i64 1) :
    (execOp ev op).run Tryd.prog u = .ok (.value (.int .i64 (z - 1))) u := by
  have e : wrap64 (z - 1) = z - 1 := by unfold wrap64; omega
  have e2 : IntKind.i64.wrap (z - 1) = z - 1 := (by simp [IntKind.wrap, IntKind.bits, IntKind.signed]; omega)
  simp only [execOp, ho, hx, hc]
  go_simp
/-- the reader's next line, whatever it is -/
def NeQ (R : Nat) (vL : Value) (p : Nat) (fa : Int) (Z : Except (Nat × Int) (List UInt8 × List (List UInt8))) (x : Ending) (w' : World) : Prop :=
  match Z with
  | .error (a, e) => x = .returned (.string ⟨#[]⟩) ∧ (∃ p', Rx w' R vL p' (a : Int) e) ∧ e ≠ 0
  | .ok (s, _) => x = .returned (.string ⟨s.toArray⟩) ∧ Rx w' R vL ((p + 1 : Nat) : Int) fa 0
theorem rNext_f {R : Nat} {L : List (List UInt8)} {lo : Option Addr} {lc : Nat} {p : Nat} {fa : Int} (w : World) (q : Rx w R (.slice lo L.length lc) p fa 0) (hL : HS w (.slice lo L.length lc) L) (hR : ∀ a, lo = some a → a.block ≠ R) (hp : p ≤ 4398046511104) (hs : ∀ s ∈ L, s.length ≤ 1099511627776)
    (Z : Except (Nat × Int) (List UInt8 × List (List UInt8))) (hZ : nxt p (L.drop p) = Z) :
    Calls Tryd.prog 27 #[.pointer (some ⟨R, 0, none⟩)] w fun x w' => NeQ R (.slice lo L.length lc) p fa Z x w' ∧ w.grownBy w' (some R) := by
  by_cases hlt : p < L.length
  · rw [nxt_drop hlt] at hZ
    have hsl := hs L[p] (List.getElem_mem hlt)
    cases hf : fdB L[p] with
    | true =>
      rw [if_pos hf] at hZ
      subst hZ
      refine (rNext_ok w q hL hR hp hlt rfl hsl hf).mono ?_
      rintro x w' ⟨rfl, h1, h2⟩
      exact ⟨⟨rfl, by simpa using h1⟩, h2⟩
    | false =>
      rw [if_neg (by rw [hf]; decide)] at hZ
      subst hZ
      refine (rNext_bad w q hL hR hp hlt rfl hsl hf).mono ?_
      rintro x w' ⟨rfl, h1, h2⟩
      exact ⟨⟨rfl, ⟨_, by simpa using h1⟩, by decide⟩, h2⟩
  · rw [nxt_end (by omega)] at hZ
    subst hZ
    refine (rNext_end w q hL hR hp (by omega)).mono ?_
    rintro x w' ⟨rfl, h1, h2⟩
    exact ⟨⟨rfl, ⟨_, by simpa using h1⟩, by decide⟩, h2⟩
/-- where the reader stands behind a hunk -/
def EdR (R : Nat) (vL : Value) (L : List (List UInt8)) (fa : Int) (X : Except (Nat × Int) (Hk × Nat × List (List UInt8))) (h : Hk) (w' : World) : Prop :=
  match X with
  | .error (a, e) => (∃ p', Rx w' R vL p' (a : Int) e) ∧ e ≠ 0
  | .ok (h1, p1, r) => h = h1 ∧ Rx w' R vL (p1 : Int) fa 0 ∧ L.drop p1 = r
/-- five cells written -/
def put5 (u : World) (b : Nat) (A AN B BN : Int) (v : Value) : World := ((((u.setCell ⟨b, 0, none⟩ (.int .i64 A)).setCell ⟨b, 1, none⟩ (.int .i64 AN)).setCell ⟨b, 2, none⟩ (.int .i64 B)).setCell ⟨b, 3, none⟩ (.int .i64 BN)).setCell ⟨b, 4, none⟩ v
/-- a hunk of the lines that were read -/
def hkF (A AN B BN : Int) (Y : Except (Nat × Int) (List Mk × Nat × List (List UInt8))) : Except (Nat × Int) (Hk × Nat × List (List UInt8)) :=
  match Y with
  | .error e => .error e
  | .ok (l, p3, r3) => .ok (⟨A, AN, B, BN, l⟩, p3, r3)
theorem hkF_then {A AN B BN : Int} {m : List Mk} {Y : Except (Nat × Int) (List Mk × Nat × List (List UInt8))} : (match Y with | .error e => .error e | .ok (l2, p3, r3) => .ok (⟨A, AN, B, BN, m ++ l2⟩, p3, r3) : Except (Nat × Int) (Hk × Nat × List (List UInt8))) = hkF A AN B BN (thenL m Y) := by
  rcases Y with e | ⟨l, p3, r3⟩ <;> rfl
end Go.Proofs.YtkmgblnofapccaaDoor

/- The code's Parse of the normal form, walked. -/
namespace Go.Proofs.YtkmgblnofapccaaDoor
open Go.RowKit

theorem mem_flatP {a : List (List UInt8)} {t : List UInt8} (h : t ∈ a) : t.length ≤ a.flatten.length := by
  induction a with
  | nil => cases h
  | cons s a ih =>
    rw [List.flatten_cons, List.length_append]
    rcases List.mem_cons.1 h with rfl | h
    · omega
    · have := ih h
      omega
theorem split_short {t : List UInt8} {M : Nat} (h : t.length ≤ M) : ∀ s ∈ Ln.splitL t, s.length ≤ M := by
  intro s hs
  have h1 := congrArg List.length (Ln.split_join t)
  have h2 := mem_flatP hs
  omega
end Go.Proofs.YtkmgblnofapccaaDoor

/- The reference's Read of layer 12, walked. -/
namespace Go.Proofs.YtkmgblnofapccaaDoor
open Go.RowKit

set_option maxHeartbeats 2000000 in
theorem rRead_long (t : List UInt8) (w : World) (hlong : 1048576 < t.length) :
    Calls Tryd.prog 24 #[.string ⟨t.toArray⟩] w fun e w' => e = .returned (.pointer (some ⟨w.heap.size, 0, none⟩)) ∧ Rx w' w.heap.size (.slice none 0 0) 0 0 9 ∧ Below w.heap.size w w' := by
  have HA : Hid (Rx (w.alloc (rdO (.slice none 0 0) 0 0 9)) w.heap.size (.slice none 0 0) 0 0 9 ∧ Below w.heap.size w (w.alloc (rdO (.slice none 0 0) 0 0 9))) := ⟨heap_alloc_new w _, (Below.refl _ w).alloc (Nat.le_refl _) _⟩
  have i1 : (1048576 : Int) < (t.length : Int) := by omega
  go_enter Tryd.func24, Tryd.ntmps24
  go_wp2
  go_ret
  exact ⟨rfl, HA.out.1, HA.out.2⟩
set_option maxHeartbeats 2000000 in
theorem rRead_f (t : List UInt8) (w : World) (hl : t.length ≤ 1048576) :
    Calls Tryd.prog 24 #[.string ⟨t.toArray⟩] w fun e w' => ∃ R lo lc, e = .returned (.pointer (some ⟨R, 0, none⟩)) ∧ Rx w' R (.slice lo (Ln.splitL t).length lc) 0 0 0 ∧ w'.ownsRow w.heap.size 9 1 (.slice lo (Ln.splitL t).length lc) (Ln.splitL t).length (scells (Ln.splitL t)) ∧ (∀ a, lo = some a → a.block ≠ R) ∧ w.heap.size ≤ R ∧ Below w.heap.size w w' := by
  have hs := rSplit_f t w (by omega)
  have i1 : ¬ (1048576 : Int) < (t.length : Int) := by omega
  generalize Ln.splitL t = L at *
  go_enter Tryd.func24, Tryd.ntmps24
  go_wp2_with fail
  refine hs.mono ?_
  rintro e w1 ⟨v, rfl, hown, hb⟩
  have hL : HS w1 v L := holds_of hown
  obtain ⟨lo, lc, rfl⟩ := Holds.form hL
  have HA : Hid (Rx (w1.alloc (rdO (.slice lo L.length lc) 0 0 0)) w1.heap.size (.slice lo L.length lc) 0 0 0 ∧ (w1.alloc (rdO (.slice lo L.length lc) 0 0 0)).ownsRow w.heap.size 9 1 (.slice lo L.length lc) L.length (scells L) ∧ (∀ a, lo = some a → a.block ≠ w1.heap.size) ∧ w.heap.size ≤ w1.heap.size ∧ Below w.heap.size w (w1.alloc (rdO (.slice lo L.length lc) 0 0 0))) := (by
    refine ⟨heap_alloc_new w1 _, hown.alloc _, ?_, hb.size, hb.alloc hb.size _⟩
    intro a ha e
    rcases hown.2 with ⟨h1, _⟩ | ⟨g, cap, cur, h1, _, h2, _⟩
    · injection h1 with h3 _ _
      rw [h3] at ha
      cases ha
    · cases h1
      cases ha
      have := (Array.getElem?_eq_some_iff.1 h2).1
      dsimp only at e
      omega)
  clear hs hb
  go_wp2
  go_ret
  exact ⟨_, _, _, rfl, HA.out⟩
end Go.Proofs.YtkmgblnofapccaaDoor

/- The reference's Run of layer 14: its reader, the row that it makes. -/
namespace Go.Proofs.YtkmgblnofapccaaDoor
open Go.RowKit

/-- the reader and the row that is made -/
structure Rz (w2 : World) (R : Nat) (vL vo : Value) (out : List (List UInt8)) (p fa fe : Int) (u : World) : Prop where
  rx : Rx u R vL p fa fe
  gr : w2.grownBy u (some R)
  own : u.ownsRow w2.heap.size 9 1 vo out.length (scells out)
  lt : R < w2.heap.size
section
variable {w w2 u u' : World} {R : Nat} {vL vo vo' : Value} {out out' : List (List UInt8)} {p fa fe p' fa' fe' : Int}
theorem Rz.call (h : Rz w2 R vL vo out p fa fe u) (hg : u.grownBy u' (some R)) (q : Rx u' R vL p' fa' fe') : Rz w2 R vL vo out p' fa' fe' u' :=
  ⟨q, grown_two h.gr hg, rc_okept h.own hg h.lt, h.lt⟩
theorem Rz.low (h : Rz w2 R vL vo out p fa fe u) (hb : Below u.heap.size u u') : Rz w2 R vL vo out p fa fe u' :=
  h.call (low_grown hb _) ((hb.block R h.rx.lt).trans h.rx)
theorem Rz.dN (h : Rz w2 R vL vo out p fa fe u) (n : Nat) : Rz w2 R vL vo out p fa fe (u.drewN n) := h.low (Below.dN (Below.refl _ u) n)
theorem Rz.grow (h : Rz w2 R vL vo out p fa fe u) (hg : u.grownBy u' vo.ownBlock) (ho : u'.ownsRow w2.heap.size 9 1 vo' out'.length (scells out')) : Rz w2 R vL vo' out' p fa fe u' := by
  refine ⟨(hg.block R h.rx.lt (fun e => by have := owns_ge h.own e.symm; have := h.lt; omega)).trans h.rx, ⟨hg.os.trans h.gr.os, hg.tape.trans h.gr.tape, hg.output.trans h.gr.output, Nat.le_trans h.gr.size hg.size, fun k hk hr => ?_⟩, ho, h.lt⟩
  exact (hg.block k (Nat.lt_of_lt_of_le hk h.gr.size) (fun e => by have := owns_ge h.own e.symm; omega)).trans (h.gr.block k hk hr)
theorem Rz.hs (h : Rz w2 R vL vo out p fa fe u) {v : Value} {L : List (List UInt8)} (hL : HS w2 v L) (hne : L ≠ [] → ∀ (a : Addr) (n c : Nat), v = .slice (some a) n c → a.block ≠ R) : HS u v L := by
  rcases hL with hL | ⟨ad, c, hv, hc0, hc⟩
  · exact .inl hL
  · refine .inr ⟨ad, c, hv, hc0, fun j x hj => ?_⟩
    have h1 := hc j x hj
    have hlt := World.block_lt_of_cell? w2 _ h1
    have hb : (ad.add j).block = ad.block := by unfold Addr.add; split <;> rfl
    rw [World.cell?_of_block (w := w2) (h.gr.block _ hlt (fun e => hne (fun h0 => by subst h0; simp [scells] at hj) ad _ c hv (by rw [← hb]; exact Option.some.inj e)))]
    exact h1
theorem Rz.below (h : Rz w2 R vL vo out p fa fe u) (hb : Below w.heap.size w w2) (hR : w.heap.size ≤ R) : Below w.heap.size w u :=
  hb.grown h.gr hb.size (fun j hj => by cases hj; exact hR)
theorem Rz.cell (h : Rz w2 R vL vo out p fa fe u) {F : Nat} {o : Obj} (hF : w2.heap[F]? = some o) (hne : F ≠ R) : u.heap[F]? = some o :=
  (h.gr.block F (Array.getElem?_eq_some_iff.1 hF).1 (fun e => hne (Option.some.inj e))).trans hF
end
/-- how the reference's Run ends -/
def RfQ (w : World) (Z : Except (Nat × Int) (List (List UInt8))) (e : Ending) (w' : World) : Prop :=
  match Z with
  | .error (a, z) => e = .returned (.tuple #[.slice none 0 0, .agg #[.int .i64 (a : Int), .int .i64 z]]) ∧ Below w.heap.size w w'
  | .ok l => ∃ v, e = .returned (.tuple #[v, .agg #[.int .i64 0, .int .i64 0]]) ∧ HS w' v l ∧ Below w.heap.size w w'
theorem rz_cell {P : Program} {fn : Func} {p q : Tmp} {ty : TypeId} (h : fn.results = #[.tmp q, .cell p ty]) (tmps : Array Value) (w : World) (g : Nat) (t : TypeId) (cs : Array Value) (fr : Nat × Nat) (d : TypeDesc)
    (hp : tmps.getD p undef = .pointer (some ⟨g, 0, none⟩)) (hg : w.heap[g]? = some (.cells cs t fr))
    (hu : P.underlying ty = some d) (hd : (match d with | .struct _ | .array _ _ => true | _ => false) = true) (hi : (P.info? ty).map (·.size) = some cs.size) :
    (results fn tmps).run P w = .ok (.tuple #[tmps.getD q undef, .agg cs]) w := by
  have hp' : tmps[p]?.getD undef = .pointer (some ⟨g, 0, none⟩) := by simpa using hp
  simp [results, h, hp', asAddr, run_loadVar_row w g t ty cs fr d hg hu hd hi]
/-- a fault in a box -/
def Fbx (u : World) (F : Nat) (a z : Int) : Prop := u.heap[F]? = some (.cells #[.int .i64 a, .int .i64 z] 34 (0, 0))
theorem Fbx.cells {u : World} {F : Nat} {a z : Int} (h : Fbx u F a z) : u.cell? ⟨F, 0, none⟩ = some (.int .i64 a) ∧ u.cell? ⟨F, 1, none⟩ = some (.int .i64 z) := by
  unfold Fbx at h
  exact ⟨by rw [Lib.cell_of_heap h]; rfl, by rw [Lib.cell_of_heap h]; rfl⟩
theorem Fbx.frozen {u : World} {F : Nat} {a z : Int} (h : Fbx u F a z) (j : Nat) : u.frozen? ⟨F, j, none⟩ = false := by
  unfold Fbx at h
  simp [World.frozen?, h]
theorem Fbx.put {u : World} {F : Nat} {a z : Int} (h : Fbx u F a z) (a' z' : Int) : Fbx ((u.setCell ⟨F, 0, none⟩ (.int .i64 a')).setCell ⟨F, 1, none⟩ (.int .i64 z')) F a' z' :=
  heap_setCell_same _ F 1 _ _ _ (heap_setCell_same u F 0 _ _ _ h)
end Go.Proofs.YtkmgblnofapccaaDoor

/- The reference's Parse of layer 12: what its variables hold. -/
namespace Go.Proofs.YtkmgblnofapccaaDoor
open Go.RowKit

section
variable {w u u' : World} {R : Nat} {ov : Value} {P : List (Hk × Value)}
end
/-- where the reader stands between two hunks -/
def AlP (R : Nat) (vL : Value) (L : List (List UInt8)) (X : Except (Nat × Int) (List Hk)) (P : List (Hk × Value)) (u : World) : Prop :=
  (∃ p f : Nat, Rx u R vL (p : Int) 0 0 ∧ p ≤ L.length ∧ P.length ≤ p ∧ (L.drop p).length ≤ f ∧ thenH (P.map (·.1)) (hksP f P.length p (L.drop p)) = X) ∨ (∃ (p' : Int) (a : Nat) (fe : Int), Rx u R vL p' (a : Int) fe ∧ fe ≠ 0 ∧ X = .error (a, fe))
/-- how much is left -/
def rmAt (u : World) (R n : Nat) : Nat := match u.heap[R]? with
  | some (.cells cs _ _) => match cs[1]?, cs[3]? with
    | some (Value.int _ p), some (Value.int _ fe) => if fe = 0 then n + 1 - p.toNat else 0
    | _, _ => 0
  | _ => 0
theorem rmAt_ok {u : World} {R n : Nat} {vL : Value} {p : Nat} {fa : Int} (h : Rx u R vL (p : Int) fa 0) : rmAt u R n = n + 1 - p := by
  unfold Rx rdO at h
  unfold rmAt
  rw [h]
  simp
theorem rmAt_no {u : World} {R n : Nat} {vL : Value} {p fa fe : Int} (h : Rx u R vL p fa fe) (hf : fe ≠ 0) : rmAt u R n = 0 := by
  unfold Rx rdO at h
  unfold rmAt
  rw [h]
  simp [hf]
set_option maxHeartbeats 1000000 in
theorem rMore_no {R : Nat} {n c : Nat} {lo : Option Addr} {p fa fe : Int} (w : World) (q : Rx w R (.slice lo n c) p fa fe) (hf : fe ≠ 0) :
    Calls Tryd.prog 25 #[.pointer (some ⟨R, 0, none⟩)] w fun x w' => x = .returned (.bool false) ∧ ∃ m, w' = w.drewN m := by
  obtain ⟨c0, c1, c2, c3⟩ := q.cells
  clear q
  have h1 : (fe == 0) = false := beq_eq_false_iff_ne.2 hf
  go_enter Tryd.func25, Tryd.ntmps25
  go_wp2_with fail
  go_quiet (fail)
  go_wp2
  go_ret
  exact ⟨rfl, _, rfl⟩
theorem hksP_step {f k p p1 : Nat} {ls r : List (List UInt8)} {h : Hk} (hne : ls ≠ []) (hk : hkP k p ls = .ok (h, p1, r)) (l : List Hk) : thenH l (hksP (f + 1) k p ls) = thenH (l ++ [h]) (hksP f (k + 1) p1 r) := by
  simp only [hksP]
  rw [if_neg hne, hk]
  dsimp only
  cases hksP f (k + 1) p1 r with
  | error e => rfl
  | ok m => simp [thenH]
theorem hksP_stop {f k p : Nat} {ls : List (List UInt8)} {e : Nat × Int} (hne : ls ≠ []) (hk : hkP k p ls = .error e) (l : List Hk) : thenH l (hksP (f + 1) k p ls) = .error e := by
  simp only [hksP]
  rw [if_neg hne, hk]
  rfl
/-- a row stays where another block is written -/
theorem row_far {u u' : World} {B : Nat} {e : TypeId} {s n : Nat} {v : Value} {xs : List Value} (h : u.ownsRow B e s v n xs) {g : Option Nat} (hg : u.grownBy u' g) (hne : ∀ k, g = some k → v.ownBlock ≠ some k) : u'.ownsRow B e s v n xs := by
  refine ⟨h.1, ?_⟩
  rcases h.2 with q | ⟨b, cap, cur, rfl, q2, q3, q4⟩
  · exact .inl q
  · refine .inr ⟨b, cap, cur, rfl, q2, ?_, q4⟩
    rw [hg.block b (Array.getElem?_eq_some_iff.1 q3).1 (fun e => hne b e.symm rfl)]
    exact q3
theorem row_two {u u' : World} {B B' : Nat} {e e' : TypeId} {s n s' n' : Nat} {v v' : Value} {xs xs' : List Value} (h : u.ownsRow B e s v n xs) (h' : u.ownsRow B' e' s' v' n' xs') (hne : e' ≠ e) (hg : u.grownBy u' v'.ownBlock) : u'.ownsRow B e s v n xs := by
  refine ⟨h.1, ?_⟩
  rcases h.2 with q | ⟨b, cap, cur, rfl, q2, q3, q4⟩
  · exact .inl q
  · refine .inr ⟨b, cap, cur, rfl, q2, ?_, q4⟩
    rw [hg.block b (Array.getElem?_eq_some_iff.1 q3).1 (fun e => own_box h' q3 hne e.symm)]
    exact q3
end Go.Proofs.YtkmgblnofapccaaDoor
