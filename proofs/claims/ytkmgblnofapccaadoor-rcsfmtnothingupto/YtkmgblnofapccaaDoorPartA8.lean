/-
  Texts that belong together, joined: RcRw, RcWk.
-/
import Derived.Test.YtkmgblnofapccaaDoorPartA7
import Derived.Deep.RegionHeld3
import Derived.Test.YtkmgblnofapccaaDoorPartA6
import Derived.Test.YtkmgblnofapccaaDoorPartA3

/- The code's Run of layer 14, walked: the commands of a text are done. -/
namespace Go.Proofs.YtkmgblnofapccaaDoor
open Go.RowKit

/-- how Run ends -/
def RcQ (w : World) (R : Except (Nat × Int) (List (List UInt8))) (e : Ending) (w' : World) : Prop :=
  match R with
  | .error (a, z) => ∃ g, e = .returned (.tuple #[.slice none 0 0, .iface 55 (.pointer (some ⟨g, 0, none⟩))]) ∧ w'.heap[g]? = some (fltO (a : Int) z) ∧ Below w.heap.size w w'
  | .ok l => ∃ v, e = .returned (.tuple #[v, .nilIface]) ∧ w'.ownsRow w.heap.size 9 1 v l.length (scells l) ∧ Below w.heap.size w w'
theorem rc_base {w : World} {B B' : Nat} {e : TypeId} {s n : Nat} {v : Value} {xs : List Value} (h : w.ownsRow B e s v n xs) (hB : B' ≤ B) : w.ownsRow B' e s v n xs := by
  refine ⟨h.1, ?_⟩
  rcases h.2 with h | ⟨g, cap, cur, q1, q2, q3, q4⟩
  · exact .inl h
  · exact .inr ⟨g, cap, cur, q1, Nat.le_trans hB q2, q3, q4⟩
theorem rc_mem {a : List (List UInt8)} {t : List UInt8} (h : t ∈ a) : t.length ≤ a.flatten.length := by
  induction a with
  | nil => cases h
  | cons s a ih =>
    rw [List.flatten_cons, List.length_append]
    rcases List.mem_cons.1 h with rfl | h
    · omega
    · have := ih h
      omega
theorem rcS_ok {a r out o r2 : List (List UInt8)} {p dn d q : Nat} {s : List UInt8} {fl g : Bool} (h : rcS a p s r out dn fl = .ok (o, d, g, q, r2)) : p < q ∧ r2 = r.drop (q - (p + 1)) ∧ ∀ x ∈ o, x ∈ out ∨ x ∈ a ∨ x ∈ r := by
  have key : ∀ (m : Nat) (x : List UInt8), x ∈ out ++ (a.drop dn).take m → x ∈ out ∨ x ∈ a ∨ x ∈ r := by
    intro m x hx
    rcases List.mem_append.1 hx with hx | hx
    · exact .inl hx
    · exact .inr (.inl (List.mem_of_mem_drop (List.mem_of_mem_take hx)))
  unfold rcS at h
  cases hr : rcmF s with
  | none => rw [hr] at h; cases h
  | some x =>
    obtain ⟨ad, ah, n⟩ := x
    rw [hr] at h
    dsimp only at h
    by_cases h1 : ah < dn ∨ (ah = dn ∧ ad = true ∧ fl = true)
    · rw [if_pos h1] at h
      cases h
    · rw [if_neg h1] at h
      by_cases h2 : a.length < ah + (if ad = true then 0 else n)
      · rw [if_pos h2] at h
        cases h
      · rw [if_neg h2] at h
        by_cases h3 : ad = true
        · rw [if_pos h3] at h
          by_cases h4 : r.length < n
          · rw [if_pos h4] at h
            cases h
          · rw [if_neg h4] at h
            cases h
            refine ⟨by omega, by congr 1; omega, fun x hx => ?_⟩
            rcases List.mem_append.1 hx with hx | hx
            · exact key _ x hx
            · exact .inr (.inr (List.mem_of_mem_take hx))
        · rw [if_neg h3] at h
          cases h
          exact ⟨by omega, by simp, fun x hx => key _ x hx⟩
theorem rcE_step {a S out : List (List UInt8)} {q dn f : Nat} {fl : Bool} {R : Except (Nat × Int) (List (List UInt8))} (hq : q < S.length) (hf : S.length - q ≤ f) (h : rcE a f q (S.drop q) out dn fl = R) :
    (∃ e, rcSR a q S[q] (S.drop (q + 1)) out dn fl = .error e ∧ R = .error e) ∨ (∃ o d g q', rcSR a q S[q] (S.drop (q + 1)) out dn fl = .ok (o, d, g, q') ∧ q < q' ∧ S.length - q' ≤ f - 1 ∧ rcE a (f - 1) q' (S.drop q') o d g = R ∧ ∀ x ∈ o, x ∈ out ∨ x ∈ a ∨ x ∈ S) := by
  cases f with
  | zero => omega
  | succ f =>
    rw [List.drop_eq_getElem_cons hq, rcE] at h
    unfold rcSR
    cases hs : rcS a q S[q] (S.drop (q + 1)) out dn fl with
    | error e =>
      rw [hs] at h
      exact .inl ⟨e, rfl, h.symm⟩
    | ok x =>
      obtain ⟨o, d, g, q', r2⟩ := x
      rw [hs] at h
      obtain ⟨h1, h2, h3⟩ := rcS_ok hs
      right
      refine ⟨o, d, g, q', rfl, h1, by omega, ?_, fun x hx => ?_⟩
      · rw [Nat.add_sub_cancel, ← h, h2, List.drop_drop]
        dsimp only
        congr 2
        omega
      · rcases h3 x hx with h | h | h
        · exact .inl h
        · exact .inr (.inl h)
        · exact .inr (.inr (List.mem_of_mem_drop h))
/-- where the runner stands -/
def rcP (g : Nat) (w : World) : Nat := match w.cell? ⟨g, 1, none⟩ with
  | some (.int _ z) => z.toNat
  | _ => 0
theorem rcP_eq {w : World} {g : Nat} {vs vo vm : Value} {p dn : Nat} {fl : Bool} (h : Rbx w g vs p vo dn fl vm) : rcP g w = p := by
  unfold rcP
  rw [h.cells.2.1]
  simp
set_option maxRecDepth 10000 in
set_option maxHeartbeats 16000000 in
theorem rcRun_f (t : List UInt8) (a : List (List UInt8)) (va : Value) (w : World) (ha : HS w va a) (htl : t.length ≤ 1099511627776) (hla : a.length ≤ 137438953472) (HTA : Hid (∀ s ∈ a, s.length ≤ 1099511627776)) (R : Except (Nat × Int) (List (List UInt8))) (HR : Hid (rcR t a = R)) :
    Calls Tryd.prog 9 #[.string ⟨t.toArray⟩, va] w fun e w' => RcQ w R e w' := by
  have hR := HR.out
  unfold rcR at hR
  clear HR
  obtain ⟨ao, ac, rfl⟩ := Holds.form ha
  by_cases hlong : 1048576 < t.length
  · rw [if_pos hlong] at hR
    subst hR
    have HA : Hid ((w.alloc (fltO ((0 : Nat) : Int) 9)).heap[w.heap.size]? = some (fltO ((0 : Nat) : Int) 9) ∧ Below w.heap.size w (w.alloc (fltO ((0 : Nat) : Int) 9))) := ⟨heap_alloc_new w _, (Below.refl _ w).alloc (Nat.le_refl _) _⟩
    have i1 : (1048576 : Int) < (t.length : Int) := by omega
    go_enter Tryd.func9, Tryd.ntmps9
    go_wp2
    go_ret2
    exact ⟨_, rfl, HA.out.1, HA.out.2⟩
  · rw [if_neg hlong] at hR
    have i1 : ¬ (1048576 : Int) < (t.length : Int) := by omega
    have hsl := Ln.split_len t
    have HSB : Hid (∀ s ∈ Ln.splitL t, s.length ≤ 1099511627776 ∧ s ≠ [] ∧ ∀ d ∈ s.dropLast, d ≠ 10) := (by
      intro s hs
      have h1 := congrArg List.length (Ln.split_join t)
      have h2 := rc_mem hs
      have h3 := lin_no (rows_lin (rows_of (Ln.split_right t)) s hs)
      exact ⟨by omega, h3.1, h3.2⟩)
    have hs := nSplit_f t w htl
    have HR2 : Hid (rcE a (Ln.splitL t).length 0 (Ln.splitL t) [] 0 false = R) := hR
    clear hR
    obtain ⟨S, hSd⟩ : ∃ S, Ln.splitL t = S := ⟨_, rfl⟩
    rw [hSd] at hsl HSB hs HR2
    clear hSd
    have hSl : S.length ≤ 1048576 := by omega
    go_enter Tryd.func9, Tryd.ntmps9
    go_wp2_with fail
    refine hs.mono ?_
    rintro e w1 ⟨vs, rfl, hown, hb1⟩
    have hScr : HS w1 vs S := holds_of hown
    obtain ⟨so, sc, rfl⟩ := Holds.form hScr
    have ha1 := HS.keep ha hb1 (Nat.le_refl _)
    clear hown hs ha
    have hbB : Below w1.heap.size w1 (w1.alloc (.cells #[.slice so S.length sc, .int .i64 0, .slice ao a.length ac, .int .i64 0, .bool false, .slice none 0 0] 59)) := (Below.refl _ w1).alloc (Nat.le_refl _) _
    have hE0 : Rrn w1 w1.heap.size (.slice so S.length sc) (.slice ao a.length ac) (.slice none 0 0) S a [] 0 0 false (w1.alloc (.cells #[.slice so S.length sc, .int .i64 0, .slice ao a.length ac, .int .i64 0, .bool false, .slice none 0 0] 59)) :=
      ⟨hbB, Nat.le_refl _, heap_alloc_new w1 _, hScr, ha1, World.ownsRow_nil _ _ _ _, Nat.zero_le _, Nat.zero_le _, Nat.zero_le _⟩
    have HE0 : Hid (Rrn w1 w1.heap.size (.slice so S.length sc) (.slice ao a.length ac) (.slice none 0 0) S a [] 0 0 false (w1.alloc (.cells #[.slice so S.length sc, .int .i64 0, .slice ao a.length ac, .int .i64 0, .bool false, .slice none 0 0] 59))) := hE0
    clear hE0 hbB
    go_wp2
    generalize w1.alloc (.cells #[.slice so S.length sc, .int .i64 0, .slice ao a.length ac, .int .i64 0, .bool false, .slice none 0 0] 59) = W4 at HE0 ⊢
    obtain ⟨G, hG⟩ : ∃ G, w1.heap.size = G := ⟨_, rfl⟩
    rw [hG] at HE0 ⊢
    have HGE : Hid (w1.heap.size = G) := hG
    clear hG
    go_loopw [] (fun wr => ∃ (q : Nat) (vm : Value) (out : List (List UInt8)) (dn : Nat) (fl : Bool) (f : Nat), Hid (Rrn w1 G (.slice so S.length sc) (.slice ao a.length ac) vm S a out q dn fl wr) ∧ q ≤ S.length ∧ Hid (S.length - q ≤ f ∧ rcE a f q (S.drop q) out dn fl = R) ∧ Hid (∀ s ∈ out, s.length ≤ 1099511627776)) (fun wr => S.length - rcP G wr)
    case atStart =>
      exact ⟨0, _, [], 0, false, S.length, HE0, Nat.zero_le _, (⟨Nat.le_refl _, HR2.out⟩ : _ ∧ _), fun s hs => by cases hs⟩
    case round =>
      clear HE0 HR2
      obtain ⟨q, vm, out, dn, fl, f, HE, hq, HF, HB⟩ := hrel
      have hmeas := rcP_eq HE.out.box
      obtain ⟨c0, c1, _, _, _, _⟩ := HE.out.box.cells
      by_cases hlt : q < S.length
      · have l1 : (q : Int) < (S.length : Int) := by omega
        obtain ⟨r, hr⟩ : ∃ r, rcSR a q S[q] (S.drop (q + 1)) out dn fl = r := ⟨_, rfl⟩
        have HRs : Hid (rcSR a q S[q] (S.drop (q + 1)) out dn fl = r) := hr
        have hst := rstep_f w1 G _ _ vm S a out q dn fl wr HE.out (by omega) (by omega) HSB hlt r HRs
        have hE := rcE_step hlt HF.out.1 HF.out.2
        rw [hr] at hE
        have HLow : Hid (Below w.heap.size w w1) := hb1
        clear hr HF HRs
        go_wp2_with fail
        refine hst.mono ?_
        intro e w5 hQ
        rcases hE with ⟨⟨k, z⟩, rfl, rfl⟩ | ⟨o, d, g', q', rfl, hqq, hfl, hrec, hmem⟩
        · obtain ⟨rfl, hz, p5, dn5, fl5, vm5, out5, rfl, hE5⟩ := hQ
          have hzb : (z != 0) = true := bne_iff_ne.2 hz
          obtain ⟨_, d1, _, _, _, _⟩ := hE5.box.cells
          have hp5 := hE5.hp
          have hlow5 : Below w.heap.size w w5 := HLow.out.trans (hE5.low.mono HLow.out.size)
          have d1d : w5.drew.cell? ⟨G, 1, none⟩ = some (.int .i64 (p5 : Int)) := d1
          have hw : IntKind.i64.wrap ((p5 : Int) + 1) = (p5 : Int) + 1 := rc_wrap (by omega) (by omega)
          have HA : Hid ((w5.drew.alloc (fltO ((p5 + 1 : Nat) : Int) z)).heap[w5.heap.size]? = some (fltO ((p5 + 1 : Nat) : Int) z) ∧ Below w.heap.size w (w5.drew.alloc (fltO ((p5 + 1 : Nat) : Int) z))) := ⟨heap_alloc_new w5.drew _, hlow5.drew.alloc hlow5.size _⟩
          clear hE5
          go_wp2_with fail
          go_region_held3 (fun w' => w'.cell? ⟨G, 1, none⟩ = some (.int .i64 (p5 : Int))) (go_keep) (fail)
          go_wp2
          go_ret2
          exact ⟨_, rfl, HA.out.1, HA.out.2⟩
        · obtain ⟨rfl, vm5, hE5⟩ := hQ
          have hp5 := hE5.hp
          have HE5 : Hid (Rrn w1 G (.slice so S.length sc) (.slice ao a.length ac) vm5 S a o q' d g' w5) := hE5
          have hm5 := rcP_eq hE5.box
          have HF5 : Hid (S.length - q' ≤ f - 1 ∧ rcE a (f - 1) q' (S.drop q') o d g' = R) := ⟨hfl, hrec⟩
          have HB5 : Hid (∀ s ∈ o, s.length ≤ 1099511627776) := fun s hs => (by
            rcases hmem s hs with h | h | h
            · exact HB.out s h
            · exact HTA.out s h
            · exact (HSB.out s h).1)
          clear hE5 hrec hmem
          go_wp2
          exact ⟨⟨q', vm5, o, d, g', f - 1, HE5, hp5, HF5, HB5⟩, by rw [hm5, hmeas]; omega⟩
      · have eq : q = S.length := by omega
        subst eq
        have l1 : decide ((S.length : Int) < (S.length : Int)) = false := decide_eq_false (by omega)
        have hRR : rcF S.length (out ++ a.drop dn) = R := (by
          have h := HF.out.2
          rw [List.drop_of_length_le (Nat.le_refl _), rcE_nil] at h
          exact h)
        have hR5 := HE.out
        have hdn := hR5.hd
        have hob := hR5.ob
        obtain ⟨po, pc, hsl, hsY⟩ := run_cut_end a ao ac (dn : Int) (by omega) (by omega) w1 hR5.old
        rw [cut_all a dn hdn] at hsl hsY
        have HYl : Hid ((a.drop dn).length = a.length - dn) := List.length_drop
        have HYB : Hid (∀ s ∈ out ++ a.drop dn, s.length ≤ 1099511627776) := (by
          intro s hs
          rcases List.mem_append.1 hs with h | h
          · exact HB.out s h
          · exact HTA.out s (List.mem_of_mem_drop h))
        obtain ⟨Y, hY⟩ : ∃ Y, a.drop dn = Y := ⟨_, rfl⟩
        rw [hY] at hsl hsY HYl HYB hRR
        have hbY : out.length + Y.length ≤ 4398046511104 := (by have := HYl.out; omega)
        have HRR : Hid (rcF S.length (out ++ Y) = R) := hRR
        clear HF HE HB hmeas hY hRR
        obtain ⟨mo, mc, rfl⟩ := rc_form hR5.own
        have hGW := hR5.gW
        go_upto_region 8 with fail
        refine wp_region_noPanic ?_
        refine wp_region_held_drew (S := fun u => u.cell? ⟨G, 5, none⟩ = some (.slice mo out.length mc) ∧ u.cell? ⟨G, 3, none⟩ = some (.int .i64 (dn : Int))) (by kernel_rfl) ⟨hR5.box.cells.2.2.2.2.2, hR5.box.cells.2.2.2.1⟩ (fun hSP => ?_)
        have hR6 := hR5.keep (Below.refl _ wr).drew
        generalize wr.drew = w6 at hSP hR6 ⊢
        clear hR5
        refine go_take 0 38 _ (.pointer (some ⟨G, 5, none⟩)) rfl (by kernel_rfl) (by kernel_rfl) (by kernel_rfl) (by kernel_rfl) (fun _ _ _ h => h) (Or.inl ⟨by kernel_rfl, fun u hu => by kernel_rfl⟩) hSP ?_
        simp only [Act.put, List.setIfInBounds_toArray, List.set_cons_zero, List.set_cons_succ]
        refine go_take 1 39 _ (.slice mo out.length mc) rfl (by kernel_rfl) (by kernel_rfl) (by kernel_rfl) (by kernel_rfl) (fun _ _ _ h => h) (Or.inl ⟨by kernel_rfl, fun u hu => rx_ld hu.1 (.tmp 38) (by kernel_rfl) (by kernel_rfl)⟩) hSP ?_
        simp only [Act.put, List.setIfInBounds_toArray, List.set_cons_zero, List.set_cons_succ]
        refine go_take 2 40 _ (.slice ao a.length ac) rfl (by kernel_rfl) (by kernel_rfl) (by kernel_rfl) (by kernel_rfl) (fun _ _ _ h => h) (Or.inl ⟨by kernel_rfl, fun u hu => by kernel_rfl⟩) hSP ?_
        simp only [Act.put, List.setIfInBounds_toArray, List.set_cons_zero, List.set_cons_succ]
        refine go_take 3 41 _ (.pointer (some ⟨G, 3, none⟩)) rfl (by kernel_rfl) (by kernel_rfl) (by kernel_rfl) (by kernel_rfl) (fun _ _ _ h => h) (Or.inl ⟨by kernel_rfl, fun u hu => by kernel_rfl⟩) hSP ?_
        simp only [Act.put, List.setIfInBounds_toArray, List.set_cons_zero, List.set_cons_succ]
        refine go_take 4 42 _ (.int .i64 (dn : Int)) rfl (by kernel_rfl) (by kernel_rfl) (by kernel_rfl) (by kernel_rfl) (fun _ _ _ h => h) (Or.inl ⟨by kernel_rfl, fun u hu => load_int hu.2 (.tmp 41) (by kernel_rfl) (by kernel_rfl)⟩) hSP ?_
        simp only [Act.put, List.setIfInBounds_toArray, List.set_cons_zero, List.set_cons_succ]
        refine go_take 5 43 _ (.slice po Y.length pc) rfl (by kernel_rfl) (by kernel_rfl) (by kernel_rfl) (by kernel_rfl) (fun _ _ _ h => h) (Or.inl ⟨by kernel_rfl, fun u hu => rx_slL hsl (.tmp 40) (.tmp 42) (by kernel_rfl) (by kernel_rfl) (by kernel_rfl)⟩) hSP ?_
        simp only [Act.put, List.setIfInBounds_toArray, List.set_cons_zero, List.set_cons_succ]
        obtain ⟨v7, w7, hr7, ho7, hg7, hn7⟩ := rc_append w6 23 (G + 1) _ out hR6.own _ Y (hsY w6 (HS.keep hR6.old hR6.low (Nat.le_refl _))) hbY hR6.box.lt
        obtain ⟨hb7, hl7⟩ := hR6.grow hg7
        obtain ⟨mo7, mc7, rfl⟩ := rc_form ho7
        refine go_val 6 44 _ rfl (by kernel_rfl) (by kernel_rfl) (by kernel_rfl) (.slice mo7 (out ++ Y).length mc7) (w7) (rx_app (.tmp 39) (.tmp 43) (by kernel_rfl) (by kernel_rfl) (by kernel_rfl) hr7) (⟨hb7.cells.2.2.2.2.2, hb7.cells.2.2.2.1⟩) ?_
        simp only [Act.put, List.setIfInBounds_toArray, List.set_cons_zero, List.set_cons_succ]
        refine go_take 7 8 _ (.slice mo7 (out ++ Y).length mc7) rfl (by kernel_rfl) (by kernel_rfl) (by kernel_rfl) (by kernel_rfl) (fun _ _ _ h => h) (Or.inl ⟨by kernel_rfl, fun u hu => by kernel_rfl⟩) ⟨hb7.cells.2.2.2.2.2, hb7.cells.2.2.2.1⟩ ?_
        simp only [Act.put, List.setIfInBounds_toArray, List.set_cons_zero, List.set_cons_succ]
        refine wpAnyH_done (by kernel_rfl) ?_ _
        refine NoPanic.normal ?_
        have hGE := HGE.out
        have hH7 : HS w7 (.slice mo7 (out ++ Y).length mc7) (out ++ Y) := holds_of ho7
        have hlw : Below w.heap.size w w7 := hb1.trans (hl7.mono hb1.size)
        have HO7 : Hid (w7.ownsRow w.heap.size 9 1 (.slice mo7 (out ++ Y).length mc7) (out ++ Y).length (scells (out ++ Y))) := rc_base ho7 (by have := hb1.size; omega)
        obtain ⟨N, hN⟩ : ∃ N, (out ++ Y).length = N := ⟨_, rfl⟩
        have hNb : N ≤ 1099511627776 := (by rw [← hN, List.length_append]; have := HYl.out; omega)
        obtain ⟨V, hV⟩ : ∃ V, out ++ Y = V := ⟨_, rfl⟩
        rw [hV] at hN hH7 HO7 HRR HYB ho7
        rw [hV]
        have HNV : Hid (V.length = N) := hN
        obtain ⟨ck, hck⟩ : ∃ ck, Ln.checkB V = ck := ⟨_, rfl⟩
        have HCK : Hid (Ln.checkB V = ck) := hck
        have hcc := hlCheck_f (.slice mo7 V.length mc7) V w7 (by omega) HYB.out hH7 ck HCK (if ck = true then 0 else 6) rfl
        obtain ⟨_, d1, _, _, _, _⟩ := hb7.cells
        clear hN hck hH7 hV ho7 hg7 hn7 hr7 hR6 hSP hsl hsY hl7
        go_wp2_with fail
        refine hcc.mono ?_
        rintro e w8 ⟨rfl, rfl⟩
        have hrr := HRR.out
        unfold rcF at hrr
        rw [HCK.out] at hrr
        cases ck with
        | true =>
          rw [if_pos rfl] at hrr ⊢
          subst hrr
          go_wp2
          go_ret2
          exact ⟨_, rfl, HO7.out, hlw⟩
        | false =>
          rw [if_neg (by decide)] at hrr ⊢
          subst hrr
          have d1d : w7.drew.cell? ⟨G, 1, none⟩ = some (.int .i64 (S.length : Int)) := d1
          have hw : IntKind.i64.wrap ((S.length : Int) + 1) = (S.length : Int) + 1 := rc_wrap (by omega) (by omega)
          have HA : Hid ((w7.drew.alloc (fltO ((S.length + 1 : Nat) : Int) 6)).heap[w7.heap.size]? = some (fltO ((S.length + 1 : Nat) : Int) 6) ∧ Below w.heap.size w (w7.drew.alloc (fltO ((S.length + 1 : Nat) : Int) 6))) := ⟨heap_alloc_new w7.drew _, hlw.drew.alloc hlw.size _⟩
          clear hb7
          go_wp2_with fail
          go_region_held3 (fun w' => w'.cell? ⟨G, 1, none⟩ = some (.int .i64 (S.length : Int))) (go_keep) (fail)
          go_wp2
          go_ret2
          exact ⟨_, rfl, HA.out.1, HA.out.2⟩
end Go.Proofs.YtkmgblnofapccaaDoor

/- The laws' own works of layer 14, walked: the chapter's first case. -/
namespace Go.Proofs.YtkmgblnofapccaaDoor
open Go.RowKit

def rwA : List (List UInt8) := [[49, 10], [50, 10], [51, 10]]
def rwB : List (List UInt8) := [[49, 10], [120, 10], [121, 10]]
def rwL : List Ch := [⟨1, 2, 1, 2⟩]
def rwT : List UInt8 := [100, 50, 32, 50, 10, 97, 51, 32, 50, 10, 120, 10, 121, 10]
theorem rw_chk : chk rwL rwA.length rwB.length = 0 := by decide +kernel
theorem rw_prt : rcT rwL rwB = rwT := by decide +kernel
theorem rw_run : rcR rwT rwA = .ok rwB := by kernel_rfl
set_option maxRecDepth 10000 in
set_option maxHeartbeats 4000000 in
theorem rworks_f (w : World) (HTb : Hid (Tab10 w)) : Calls Tryd.prog 12 #[] w fun e w' => e = .returned (.bool true) ∧ Below w.heap.size w w' := by
  have HR : Hid (chk rwL rwA.length rwB.length = 0) := rw_chk
  have HT : Hid ((if (0 : Int) = 0 then rcT rwL rwB else []) = rwT) := (by show _ = _; rw [if_pos rfl]; exact rw_prt)
  have HX : Hid (rcR rwT rwA = .ok rwB) := rw_run
  have HTAA : Hid (∀ s ∈ rwA, s.length ≤ 1099511627776) := (by show ∀ s ∈ rwA, s.length ≤ 1099511627776; decide +kernel)
  obtain ⟨u1, hu1⟩ : ∃ u, w.alloc (.cells #[.string ⟨#[49, 10]⟩, .string ⟨#[50, 10]⟩, .string ⟨#[51, 10]⟩] 9) = u := ⟨_, rfl⟩
  obtain ⟨u2, hu2⟩ : ∃ u, u1.alloc (.cells #[.int .i64 1, .int .i64 2, .int .i64 1, .int .i64 2] 43) = u := ⟨_, rfl⟩
  obtain ⟨u3, hu3⟩ : ∃ u, u2.alloc (.cells #[.string ⟨#[49, 10]⟩, .string ⟨#[120, 10]⟩, .string ⟨#[121, 10]⟩] 9) = u := ⟨_, rfl⟩
  have b1 : Below w.heap.size w u1 := by rw [← hu1]; exact (Below.refl _ w).alloc (Nat.le_refl _) _
  have b2 : Below u1.heap.size u1 u2 := by rw [← hu2]; exact (Below.refl _ u1).alloc (Nat.le_refl _) _
  have b3 : Below u2.heap.size u2 u3 := by rw [← hu3]; exact (Below.refl _ u2).alloc (Nat.le_refl _) _
  have s1 : u1.heap.size = w.heap.size + 1 := by rw [← hu1]; simp
  have s2 : u2.heap.size = w.heap.size + 1 + 1 := by rw [← hu2, World.size_alloc, s1]
  have ha0 : HS u1 (.slice (some ⟨w.heap.size, 0, none⟩) 3 3) rwA := by rw [← hu1]; exact new_holds w #[.string ⟨#[49, 10]⟩, .string ⟨#[50, 10]⟩, .string ⟨#[51, 10]⟩] 9 3 3 (by decide)
  have hl0 : HCh u2 (.slice (some ⟨w.heap.size + 1, 0, none⟩) 1 1) rwL := by rw [← hu2, ← s1]; exact new_holds u1 #[.int .i64 1, .int .i64 2, .int .i64 1, .int .i64 2] 43 1 1 (by decide)
  have hb0 : HS u3 (.slice (some ⟨w.heap.size + 1 + 1, 0, none⟩) 3 3) rwB := by rw [← hu3, ← s2]; exact new_holds u2 #[.string ⟨#[49, 10]⟩, .string ⟨#[120, 10]⟩, .string ⟨#[121, 10]⟩] 9 3 3 (by decide)
  have ha3 : HS u3 (.slice (some ⟨w.heap.size, 0, none⟩) 3 3) rwA := HS.keep (HS.keep ha0 b2 (Nat.le_refl _)) b3 (Nat.le_refl _)
  have hl3 : HCh u3 (.slice (some ⟨w.heap.size + 1, 0, none⟩) 1 1) rwL := HCh.keep hl0 b3 (Nat.le_refl _)
  have b12 := b1.trans (b2.mono b1.size)
  have b13 := b12.trans (b3.mono b12.size)
  have HTb3 : Hid (Tab10 u3) := HTb.out.on b13
  clear b1 b2 b3 b12 hl0 ha0
  go_enter Tryd.func12, Tryd.ntmps12
  go_wp2_with fail
  refine (rcPrint_f rwL _ _ _ rwA rwB u3 hl3 ha3 hb0 (by decide) (by decide) (by decide) (by decide) HTb3 0 HR rwT HT (by decide)).mono ?_
  rintro e w2 ⟨rfl, hB2⟩
  have hB02 := b13.trans (hB2.mono b13.size)
  have ha4 := HS.keep ha3 hB2 (Nat.le_refl _)
  clear hl3 ha3 hb0 b13 hB2 HTb3 HT HR HTb hu1 hu2 hu3 s1 s2
  unfold rwT at HX ⊢
  go_wp2_with fail
  refine (rcRun_f [100, 50, 32, 50, 10, 97, 51, 32, 50, 10, 120, 10, 121, 10] rwA _ w2 ha4 (by decide) (by decide) HTAA _ HX).mono ?_
  rintro e w3 ⟨v, rfl, hv, hB3⟩
  have hB03 := hB02.trans (hB3.mono hB02.size)
  have hv3 : HS w3 v rwB := holds_of hv
  obtain ⟨vo, vc, rfl⟩ := Holds.form hv3
  have hJ := lJoin_f (.slice vo rwB.length vc) rwB w3 (by decide) (by decide) hv3
  have eJ : rwB.flatten = [49, 10, 120, 10, 121, 10] := rfl
  rw [eJ] at hJ
  clear ha4 hB02 hB3 HX hv hv3 eJ
  go_wp2_with fail
  refine hJ.mono ?_
  rintro e w6 ⟨rfl, hB6⟩
  go_wp2
  go_ret
  exact ⟨rfl, hB03.trans (hB6.mono hB03.size)⟩
end Go.Proofs.YtkmgblnofapccaaDoor
