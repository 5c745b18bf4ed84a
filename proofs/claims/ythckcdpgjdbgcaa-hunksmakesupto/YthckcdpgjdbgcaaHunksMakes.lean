/-
  HunksMakes, walked: of any edit script and texts the groups and the hunks are made that the chapter says.
-/
import Derived.Test.YthckcdpgjdbgcaaPartD2
import Derived.Test.YthckcdpgjdbgcaaPartA6
import Derived.Test.YthckcdpgjdbgcaaPartB1
namespace Go.Proofs.Ythckcdpgjdbgcaa
open Go.RowKit

theorem mem_flat {a : List (List UInt8)} {t : List UInt8} (h : t ∈ a) : t.length ≤ a.flatten.length := by
  induction a with
  | nil => cases h
  | cons s a ih =>
    rw [List.flatten_cons, List.length_append]
    rcases List.mem_cons.1 h with rfl | h
    · omega
    · have := ih h
      omega
/-- hunks that are made: how many, how long -/
theorem made_bound {l : List Ch} {a b : List (List UInt8)} {ctx : Int} : (mkR l a b ctx).length ≤ l.length ∧ ∀ h ∈ mkR l a b ctx, h.ls.length ≤ a.length + b.length ∧ ∀ m ∈ h.ls, m.tx.length ≤ a.flatten.length + b.flatten.length := by
  unfold mkR grpR
  by_cases hz : grpE l a.length b.length ctx = 0
  · rw [if_pos hz]
    have hE : Script l a.length b.length ∧ 0 ≤ ctx := (by
      unfold grpE at hz
      by_cases hs : Script l a.length b.length
      · refine ⟨hs, ?_⟩
        rw [chk_ok hs] at hz
        by_cases hx : ctx < 0 ∨ 100 < ctx
        · simp [hx] at hz
        · omega
      · rw [chk_no hs] at hz
        simp at hz)
    refine ⟨?_, ?_⟩
    · rw [List.length_map]
      have hf := congrArg List.length (grp_flatten ctx l)
      have key : ∀ G : List (List Ch), (∀ g ∈ G, g ≠ []) → G.length ≤ G.flatten.length := by
        intro G
        induction G with
        | nil => intro _; simp
        | cons g G ih =>
          intro h
          have h1 := ih fun x hx => h x (by simp [hx])
          have h2 : 0 < g.length := List.length_pos_iff.2 (h g (by simp))
          simp only [List.flatten_cons, List.length_append, List.length_cons]
          omega
      have := key _ (grp_ne ctx l)
      omega
    · intro h hh
      obtain ⟨g, hg, rfl⟩ := List.mem_map.1 hh
      obtain ⟨pre, post, he⟩ := List.append_of_mem hg
      cases g with
      | nil => exact absurd rfl (grp_ne ctx l [] hg)
      | cons f g =>
        refine ⟨(script_at hE.2 hE.1 he).2.2.2, fun m hm => ?_⟩
        have hm2 := (mem_body _ _ m hm).2
        rcases hm2 with hm2 | hm2
        · have := mem_flat hm2
          omega
        · have := mem_flat hm2
          omega
  · rw [if_neg hz]
    simp
theorem chcells_setA (L : List Ch) (k : Nat) (hk : k < L.length) (z : Int) : (chcells L).set (k * 4) (.int .i64 z) = chcells (L.set k ⟨z, L[k].AN, L[k].B, L[k].BN⟩) := by
  induction L generalizing k with
  | nil => simp at hk
  | cons c L ih =>
    have e : ∀ (x : Ch) (y : List Ch), chcells (x :: y) = chC x ++ chcells y := fun _ _ => rfl
    cases k with
    | zero => simp [e, chC]
    | succ k =>
      simp only [List.set_cons_succ, List.getElem_cons_succ]
      rw [e, e, ← ih k (by simpa using hk), List.set_append_right _ _ (by simp [chC]; omega)]
      congr 2
      simp [chC]
      omega
/-- groups of the code's, of which the first have been written into, and those of the reference's -/
structure Gk (Wc : World) (N : Nat) (gv iv : Value) (G D J : List (List Ch × Value)) (u : World) : Prop where
  low : Below Wc.heap.size Wc u
  row : u.ownsRow Wc.heap.size 22 1 gv G.length (G.map (·.2))
  ins : ∀ x ∈ D, u.ownsRow Wc.heap.size 35 4 x.2 x.1.length (chcells x.1)
  rrow : u.ownsRow N 22 1 iv J.length (J.map (·.2))
  rins : ∀ x ∈ J, u.ownsRow N 35 4 x.2 x.1.length (chcells x.1)
theorem Gk.keep {Wc : World} {N : Nat} {gv iv : Value} {G D J : List (List Ch × Value)} {u u' : World} (h : Gk Wc N gv iv G D J u) (hk : Below u.heap.size u u') : Gk Wc N gv iv G D J u' :=
  ⟨h.low.trans (hk.mono h.low.size), owns_keep h.row hk, fun x hx => owns_keep (h.ins x hx) hk, owns_keep h.rrow hk, fun x hx => owns_keep (h.rins x hx) hk⟩
/-- a number is written into a group that lies apart -/
theorem Gk.put {Wc : World} {N : Nat} {gv iv : Value} {G D J : List (List Ch × Value)} {u : World} (h : Gk Wc N gv iv G D J u) {x : Value} {n : Nat} {xs : List Value} (hx : u.ownsRow Wc.heap.size 35 4 x n xs) {b j : Nat} {z : Value} (hb : x.ownBlock = some b) (hN : b < N) (hD : ∀ y ∈ D, y.2.ownBlock ≠ some b) : Gk Wc N gv iv G D J (u.setCell ⟨b, j, none⟩ z) := by
  have hg := grown_set u b j z
  have hge := owns_ge hx hb
  refine ⟨h.low.grown hg h.low.size (fun i hi => by cases hi; exact hge), own_kept h.row hg (fun i hi => by cases hi; exact own_ne hx h.row (by decide) hb), fun y hy => own_kept (h.ins y hy) hg (fun i hi => by cases hi; exact hD y hy), own_kept h.rrow hg (fun i hi e => by cases hi; have := owns_ge h.rrow e; omega), fun y hy => own_kept (h.rins y hy) hg (fun i hi e => by cases hi; have := owns_ge (h.rins y hy) e; omega)⟩
theorem row_cell {u : World} {B : Nat} {G : List (List Ch × Value)} {oo : Option Addr} {n oc : Nat} (h : u.ownsRow B 22 1 (.slice oo n oc) G.length (G.map (·.2))) {k : Nat} (hk : k < G.length) : ∃ q, oo = some ⟨q, 0, none⟩ ∧ u.cell? ⟨q, k, none⟩ = some G[k].2 := by
  rcases h.2 with ⟨_, h0⟩ | ⟨q, cap, cur, e, _⟩
  · omega
  · cases e
    refine ⟨q, rfl, ?_⟩
    rw [h.cellAt k (by omega)]
    simp [hk]

set_option maxRecDepth 10000 in
set_option maxHeartbeats 16000000 in
theorem HunksMakes_any (l : List Ch) (a b : List (List UInt8)) (ctx : Int) (v va vb : Value) (w : World) (hl : l.length ≤ 1048576) (hal : a.length + a.flatten.length ≤ 1048576) (hbl : b.length + b.flatten.length ≤ 1048576) (hv : HCh w v l) (ha : HS w va a) (hb : HS w vb b) : Calls Try.prog 3 #[v, va, vb, .int .i64 ctx] w fun e w' => e = .returned (.bool true) ∧ Below w.heap.size w w' := by
  obtain ⟨vo, vc, rfl⟩ := Holds.form hv
  obtain ⟨ao, ac, rfl⟩ := Holds.form ha
  obtain ⟨bo, bc, rfl⟩ := Holds.form hb
  obtain ⟨z, hz⟩ : ∃ z, grpE l a.length b.length ctx = z := ⟨_, rfl⟩
  obtain ⟨R, hR⟩ : ∃ R, mkR l a b ctx = R := ⟨_, rfl⟩
  obtain ⟨GR, hGR⟩ : ∃ R, grpR l a.length b.length ctx = R := ⟨_, rfl⟩
  have HZ : Hid (grpE l a.length b.length ctx = z) := hz
  have HR : Hid (mkR l a b ctx = R) := hR
  have HGR : Hid (grpR l a.length b.length ctx = GR) := hGR
  have hmb := made_bound (l := l) (a := a) (b := b) (ctx := ctx)
  rw [hR] at hmb
  have HMB : Hid (R.length ≤ l.length ∧ ∀ h ∈ R, h.ls.length ≤ a.length + b.length ∧ ∀ m ∈ h.ls, m.tx.length ≤ a.flatten.length + b.flatten.length) := hmb
  have hgml : ∀ g ∈ GR, g.length ≤ 1099511627776 := (by
    intro g hg
    rw [← hGR] at hg
    unfold grpR at hg
    split at hg
    · have hf := congrArg List.length (grp_flatten ctx l)
      have : g.length ≤ (grp ctx l).flatten.length := by
        obtain ⟨pre, post, he⟩ := List.append_of_mem hg
        rw [he]
        simp only [List.flatten_append, List.flatten_cons, List.length_append]
        omega
      omega
    · cases hg)
  have HGM : Hid (∀ g ∈ GR, g.length ≤ 1099511627776) := hgml
  have HGRl : Hid (GR.length ≤ 1099511627776) := (by
    show _ ≤ _
    have h1 := hmb.1
    rw [← hR] at h1
    unfold mkR at h1
    rw [List.length_map, hGR] at h1
    omega)
  clear hz hR hGR hmb hgml
  have hnil1 := nil_row_new (e := 35) (s := 4) w w.heap.size w.heap.size rfl (Nat.le_refl _)
  have hB1 : Below w.heap.size w (w.alloc (.cells #[] 35)) := (Below.refl _ w).alloc (Nat.le_refl _) _
  have hv1 := HCh.keep hv hB1 (Nat.le_refl _)
  have HS1 : Hid ((w.alloc (.cells #[] 35)).heap.size = w.heap.size + 1) := (by show _ = _; simp)
  go_enter Try.func3, Try.ntmps3
  go_wp2_with (at_builtin; refine wpList_append_w _ (by kernel_rfl) (.tmp 22) (.tmp 23) 22 35 (.agg #[.int .i64 0, .int .i64 0, .int .i64 0, .int .i64 0]) 4 32 rfl Try.underlying22 infoCh rfl (by decide) (by decide) w.heap.size _ _ _ rfl hnil1 _ l.length (chcells l) rfl hv1 (chcells_length _) (chcells_one _) (by omega) (by have := HS1.out; omega) ?_)
  intro v9 w1 hown1 hg1 _
  have hBw1 : Below w.heap.size w w1 := hB1.grown hg1 hB1.size (fun j hj => owns_ge hnil1 hj)
  have hv9 : HCh w1 v9 l := holds_of hown1
  obtain ⟨o9, c9, rfl⟩ := Holds.form hv9
  clear hown1 hg1 hnil1 hB1 hv1 HS1
  have ha1 := HS.keep ha hBw1 (Nat.le_refl _)
  have hnil2 := nil_row_new (e := 9) (s := 1) w1 w1.heap.size w1.heap.size rfl (Nat.le_refl _)
  have hB2 : Below w1.heap.size w1 (w1.alloc (.cells #[] 9)) := (Below.refl _ w1).alloc (Nat.le_refl _) _
  have ha2 := HS.keep ha1 hB2 (Nat.le_refl _)
  have HS2 : Hid ((w1.alloc (.cells #[] 9)).heap.size = w1.heap.size + 1) := (by show _ = _; simp)
  go_wp2_with (at_builtin; refine wpList_append_w _ (by kernel_rfl) (.tmp 25) (.tmp 26) 23 9 (.string ⟨#[]⟩) 1 16 rfl Try.underlying23 infoStr rfl (by decide) (by decide) w1.heap.size _ _ _ rfl hnil2 _ a.length (scells a) rfl ha2 (by simp [scells_length]) (scells_one _) (by omega) (by have := HS2.out; omega) ?_)
  intro v10 w2 hown2 hg2 _
  have hBw2 : Below w1.heap.size w1 w2 := hB2.grown hg2 hB2.size (fun j hj => owns_ge hnil2 hj)
  have hv10 : HS w2 v10 a := holds_of hown2
  obtain ⟨o10, c10, rfl⟩ := Holds.form hv10
  have hBww2 := hBw1.trans (hBw2.mono hBw1.size)
  clear hown2 hg2 hnil2 hB2 ha2 HS2 ha1
  have hb2 := HS.keep hb hBww2 (Nat.le_refl _)
  have hnil3 := nil_row_new (e := 9) (s := 1) w2 w2.heap.size w2.heap.size rfl (Nat.le_refl _)
  have hB3 : Below w2.heap.size w2 (w2.alloc (.cells #[] 9)) := (Below.refl _ w2).alloc (Nat.le_refl _) _
  have hb3 := HS.keep hb2 hB3 (Nat.le_refl _)
  have HS3 : Hid ((w2.alloc (.cells #[] 9)).heap.size = w2.heap.size + 1) := (by show _ = _; simp)
  go_wp2_with (at_builtin; refine wpList_append_w _ (by kernel_rfl) (.tmp 28) (.tmp 29) 23 9 (.string ⟨#[]⟩) 1 16 rfl Try.underlying23 infoStr rfl (by decide) (by decide) w2.heap.size _ _ _ rfl hnil3 _ b.length (scells b) rfl hb3 (by simp [scells_length]) (scells_one _) (by omega) (by have := HS3.out; omega) ?_)
  intro v11 w3 hown3 hg3 _
  have hBw3 : Below w2.heap.size w2 w3 := hB3.grown hg3 hB3.size (fun j hj => owns_ge hnil3 hj)
  have hv11 : HS w3 v11 b := holds_of hown3
  obtain ⟨o11, c11, rfl⟩ := Holds.form hv11
  have hBww3 := hBww2.trans (hBw3.mono hBww2.size)
  have hv9_3 := HCh.keep (HCh.keep hv9 hBw2 (Nat.le_refl _)) hBw3 (Nat.le_refl _)
  have hv10_3 := HS.keep hv10 hBw3 (Nat.le_refl _)
  clear hown3 hg3 hnil3 hB3 hb3 HS3 hb2 hBw1 hBw2 hBw3 hBww2 hv9 hv10
  -- what is the same from here on: the three arguments, their copies
  have hvW := HCh.keep hv hBww3 (Nat.le_refl _)
  have haW := HS.keep ha hBww3 (Nat.le_refl _)
  have hbW := HS.keep hb hBww3 (Nat.le_refl _)
  clear hv ha hb
  go_wp2_with fail
  refine (hMake_f l a b ctx _ _ _ w3 hv9_3 hv10_3 hv11 (by omega) (by omega) (by omega) z HZ R HR).mono ?_
  rintro e w4 ⟨v12, P, rfl, hP, hPm⟩
  obtain ⟨o12, c12, rfl⟩ := (holds_of hP.own).form
  have hB34 := hP.low
  have HPM : Hid (P.map (·.1) = R) := hPm
  have hPh := hP.holds
  clear hPm hP
  go_wp2_with fail
  refine (rMake_f l a b ctx _ _ _ w4 (HCh.keep hvW hB34 (Nat.le_refl _)) (HS.keep haW hB34 (Nat.le_refl _)) (HS.keep hbW hB34 (Nat.le_refl _)) (by omega) (by omega) (by omega) z HZ R HR).mono ?_
  rintro e w5 ⟨v14, Q, rfl, hQ, hQm⟩
  obtain ⟨o14, c14, rfl⟩ := (holds_of hQ.own).form
  have hB45 := hQ.low
  have hB35 := hB34.trans (hB45.mono hB34.size)
  have HPQ : Hid (P.map (·.1) = Q.map (·.1)) := (by show _ = _; rw [HPM.out, hQm])
  have hQh := hQ.holds
  have hPh5 := hPh.keep hB45 (Nat.le_refl _)
  clear hQm hQ hPh hB45 hB34
  go_wp2_with fail
  refine (hGroup_f l a.length b.length ctx _ w5 (HCh.keep hv9_3 hB35 (Nat.le_refl _)) (by omega) (by omega) (by omega) z HZ GR HGR).mono ?_
  rintro e w6 ⟨v16, G, rfl, hG, hAp, hGm⟩
  obtain ⟨o16, c16, rfl⟩ := (holds_of hG.own).form
  have hB56 := hG.low
  have hB36 := hB35.trans (hB56.mono hB35.size)
  have hPh6 := hPh5.keep hB56 (Nat.le_refl _)
  have hQh6 := hQh.keep hB56 (Nat.le_refl _)
  have HAP : Hid (Apt G) := hAp
  have HGg : Hid (G.map (·.1) = GR) := hGm
  have HBL : Hid (∀ x ∈ G, ∀ j, x.2.ownBlock = some j → j < w6.heap.size) := fun x hx j hj => own_lt (hG.ins x hx) hj
  have HGL : Hid (G.length ≤ 1099511627776) := (by
    have h1 := congrArg List.length hGm
    have h2 := HGRl.out
    simp at h1
    show _ ≤ _
    omega)
  clear hGm hAp hPh5 hQh
  go_wp2_with fail
  refine (rGroup_f l a.length b.length ctx _ w6 (HCh.keep hvW hB36 (Nat.le_refl _)) (by omega) (by omega) (by omega) z HZ GR HGR).mono ?_
  rintro e w7 ⟨v18, J, rfl, hJ, hJm⟩
  obtain ⟨o18, c18, rfl⟩ := (holds_of hJ.own).form
  have hB67 := hJ.low
  have hB37 := hB36.trans (hB67.mono hB36.size)
  have hPh7 := hPh6.keep hB67 (Nat.le_refl _)
  have hQh7 := hQh6.keep hB67 (Nat.le_refl _)
  have hGJ : G.length = J.length := (by
    have h1 := congrArg List.length HGg.out
    have h2 := congrArg List.length hJm
    simp at h1 h2
    omega)
  have HJg : Hid (G.map (·.1) = J.map (·.1)) := (by show _ = _; rw [HGg.out, hJm])
  have hGK : Gk w5 w6.heap.size (.slice o16 G.length c16) (.slice o18 J.length c18) G G J w7 := ⟨hB56.trans (hB67.mono hB56.size), owns_keep hG.own hB67, fun x hx => owns_keep (hG.ins x hx) hB67, hJ.own, hJ.ins⟩
  have hlenE : ((G.length : Int) != (J.length : Int)) = false := by rw [hGJ]; simp
  have HGJ : Hid (G.length = J.length) := hGJ
  clear hJm hPh6 hQh6 hG hJ hGJ
  have hokP : HOk P := (by
    refine ⟨?_, fun x hx => ?_⟩
    · have h1 := congrArg List.length HPM.out
      have h2 := HMB.out.1
      simp at h1
      omega
    · have h1 := HMB.out.2 x.1 (by rw [← HPM.out]; exact List.mem_map_of_mem hx)
      exact ⟨by omega, fun m hm => by have := h1.2 m hm; omega⟩)
  go_wp2_with fail
  refine (rSameHunks_f P Q _ _ w7 hPh7 hQh7 HPQ.out hokP).mono ?_
  rintro e w8 ⟨rfl, hB78⟩
  have hB38 := hB37.trans (hB78.mono hB37.size)
  have hGK8 := hGK.keep hB78
  clear hPh7 hQh7 hGK hB78 hokP
  go_wp2_with fail
  refine (SameC_any _ _ l w8 (by omega) (HCh.keep hv9_3 hB38 (Nat.le_refl _)) (HCh.keep hvW hB38 (Nat.le_refl _))).mono ?_
  rintro e w9 ⟨rfl, hB89⟩
  have hB39 := hB38.trans (hB89.mono hB38.size)
  have hGK9 := hGK8.keep hB89
  clear hGK8 hB89
  go_wp2_with fail
  refine (SameS_any _ _ a w9 (by omega) (HS.keep haW hB39 (Nat.le_refl _)) (HS.keep hv10_3 hB39 (Nat.le_refl _))).mono ?_
  rintro e w10 ⟨rfl, hB910⟩
  have hB310 := hB39.trans (hB910.mono hB39.size)
  have hGK10 := hGK9.keep hB910
  clear hGK9 hB910
  go_wp2_with fail
  refine (SameS_any _ _ b w10 (by omega) (HS.keep hbW hB310 (Nat.le_refl _)) (HS.keep hv11 hB310 (Nat.le_refl _))).mono ?_
  rintro e w11 ⟨rfl, hB1011⟩
  have hGK11 := hGK10.keep hB1011
  clear hGK10 hB1011 hB39 hB310 hB38 hB37 hB36 hB67 HZ HR HGR HMB HPM HPQ
  go_wp2
  have hGl : G.length ≤ 1099511627776 := HGL.out
  go_loopw [20] (fun kv wr => ∃ k : Nat, k ≤ G.length ∧ kv = .int .i64 (k : Int) ∧ Gk w5 w6.heap.size (.slice o16 G.length c16) (.slice o18 J.length c18) G (G.drop k) J wr) (fun kv _ => G.length - (intOf kv).toNat)
  case atStart => exact ⟨0, Nat.zero_le _, by go_num, hGK11⟩
  case round =>
    obtain ⟨k, hk, rfl, hK⟩ := hrel
    clear hGK11
    by_cases hlt : k < G.length
    · obtain ⟨g, gvk, hgk⟩ : ∃ g gv, G[k] = (g, gv) := ⟨_, _, rfl⟩
      have hltJ : k < J.length := by have := HGJ.out; omega
      obtain ⟨g', jvk, hjk⟩ : ∃ g' jv, J[k] = (g', jv) := ⟨_, _, rfl⟩
      obtain rfl : g = g' := (by
        have h1 : (G.map (·.1))[k]? = (J.map (·.1))[k]? := by rw [HJg.out]
        simp [hlt, hltJ, hgk, hjk] at h1
        exact h1)
      obtain ⟨gq, rfl, hcG⟩ := row_cell hK.row hlt
      obtain ⟨iq, rfl, hcJ⟩ := row_cell hK.rrow hltJ
      rw [hgk] at hcG
      rw [hjk] at hcJ
      have hdr : G.drop k = (g, gvk) :: G.drop (k + 1) := by rw [List.drop_eq_getElem_cons hlt, hgk]
      have hmemG : (g, gvk) ∈ G := by rw [← hgk]; exact List.getElem_mem hlt
      have hoG := hK.ins (g, gvk) (by rw [hdr]; simp)
      have hoJ := hK.rins (g, jvk) (by rw [← hjk]; exact List.getElem_mem hltJ)
      have hgl : g.length ≤ 1099511627776 := HGM.out g (by rw [← HGg.out]; exact List.mem_map.2 ⟨_, hmemG, rfl⟩)
      have HDJ : Hid (∀ b, gvk.ownBlock = some b → b < w6.heap.size ∧ ∀ y ∈ G.drop (k + 1), y.2.ownBlock ≠ some b) := (by
        intro b hb
        refine ⟨HBL.out _ hmemG b hb, fun y hy => ?_⟩
        have h1 : Apt (G.drop k) := HAP.out.sublist (List.drop_sublist k G)
        unfold Apt at h1
        rw [hdr] at h1
        exact (List.pairwise_cons.1 h1).1 y hy b hb)
      obtain ⟨go, gcc, hgv⟩ := (holds_of hoG).form
      obtain ⟨jo, jcc, hjv⟩ := (holds_of hoJ).form
      dsimp only at hgv hjv hoG hoJ hcG hcJ
      subst hgv hjv
      have hchG : HCh wr (.slice go g.length gcc) g := holds_of hoG
      have hchJ : HCh wr (.slice jo g.length jcc) g := holds_of hoJ
      have hcG0 := hcG
      have hcJ0 := hcJ
      rw [← Nat.zero_add k] at hcG hcJ
      have hK2 : Gk w5 w6.heap.size (.slice (some ⟨gq, 0, none⟩) G.length c16) (.slice (some ⟨iq, 0, none⟩) J.length c18) G (G.drop (k + 1)) J wr := ⟨hK.low, hK.row, fun x hx => hK.ins x (by rw [hdr]; exact List.mem_cons_of_mem _ hx), hK.rrow, hK.rins⟩
      have k1 : (0 : Int) ≤ (k : Int) := by omega
      have k2 : (k : Int) < (G.length : Int) := by omega
      clear hdr hgk hjk hmemG hK hcJ0
      go_upto_region 12 with fail
      have hlow : Low wr (wr.drewN 1) := Below.dN (Below.refl _ wr) 1
      refine wp_region_noPanic ?_
      refine wp_region_held_drew (S := fun u => Low wr u) (by kernel_rfl) hlow (fun hHeld => ?_)
      refine go_take 0 112 _ (.slice (some ⟨gq, 0, none⟩) G.length c16) rfl (by kernel_rfl) (by kernel_rfl) (by kernel_rfl) (by kernel_rfl) (fun _ _ _ h => h) (Or.inl ⟨by kernel_rfl, fun u hu => by kernel_rfl⟩) hHeld ?_
      simp only [Act.put, List.setIfInBounds_toArray, List.set_cons_zero, List.set_cons_succ]
      refine go_take 1 113 _ (.int .i64 (k : Int)) rfl (by kernel_rfl) (by kernel_rfl) (by kernel_rfl) (by kernel_rfl) (fun _ _ _ h => h) (Or.inl ⟨by kernel_rfl, fun u hu => by kernel_rfl⟩) hHeld ?_
      simp only [Act.put, List.setIfInBounds_toArray, List.set_cons_zero, List.set_cons_succ]
      refine go_take 2 114 _ (.pointer (some ⟨gq, 0 + k, none⟩)) rfl (by kernel_rfl) (by kernel_rfl) (by kernel_rfl) (by kernel_rfl) (fun _ _ _ h => h) (Or.inl ⟨by kernel_rfl, fun u hu => exec_ixG (c := c16) (i := k) hlt (.tmp 112) (.tmp 113) (by kernel_rfl) (by kernel_rfl) (by kernel_rfl)⟩) hHeld ?_
      simp only [Act.put, List.setIfInBounds_toArray, List.set_cons_zero, List.set_cons_succ]
      refine go_take 3 115 _ (.slice go g.length gcc) rfl (by kernel_rfl) (by kernel_rfl) (by kernel_rfl) (by kernel_rfl) (fun _ _ _ h => h) (Or.inl ⟨by kernel_rfl, fun u hu => load_chs (hcell_keep hu hcG) (.tmp 114) (by kernel_rfl) (by kernel_rfl)⟩) hHeld ?_
      simp only [Act.put, List.setIfInBounds_toArray, List.set_cons_zero, List.set_cons_succ]
      refine go_take 4 116 _ (.slice (some ⟨iq, 0, none⟩) J.length c18) rfl (by kernel_rfl) (by kernel_rfl) (by kernel_rfl) (by kernel_rfl) (fun _ _ _ h => h) (Or.inl ⟨by kernel_rfl, fun u hu => by kernel_rfl⟩) hHeld ?_
      simp only [Act.put, List.setIfInBounds_toArray, List.set_cons_zero, List.set_cons_succ]
      refine go_take 5 117 _ (.int .i64 (k : Int)) rfl (by kernel_rfl) (by kernel_rfl) (by kernel_rfl) (by kernel_rfl) (fun _ _ _ h => h) (Or.inl ⟨by kernel_rfl, fun u hu => by kernel_rfl⟩) hHeld ?_
      simp only [Act.put, List.setIfInBounds_toArray, List.set_cons_zero, List.set_cons_succ]
      refine go_take 6 118 _ (.pointer (some ⟨iq, 0 + k, none⟩)) rfl (by kernel_rfl) (by kernel_rfl) (by kernel_rfl) (by kernel_rfl) (fun _ _ _ h => h) (Or.inl ⟨by kernel_rfl, fun u hu => exec_ixG (c := c18) (i := k) hltJ (.tmp 116) (.tmp 117) (by kernel_rfl) (by kernel_rfl) (by kernel_rfl)⟩) hHeld ?_
      simp only [Act.put, List.setIfInBounds_toArray, List.set_cons_zero, List.set_cons_succ]
      refine go_take 7 119 _ (.slice jo g.length jcc) rfl (by kernel_rfl) (by kernel_rfl) (by kernel_rfl) (by kernel_rfl) (fun _ _ _ h => h) (Or.inl ⟨by kernel_rfl, fun u hu => load_chs (hcell_keep hu hcJ) (.tmp 118) (by kernel_rfl) (by kernel_rfl)⟩) hHeld ?_
      simp only [Act.put, List.setIfInBounds_toArray, List.set_cons_zero, List.set_cons_succ]
      refine go_callH 8 120 _ rfl (by kernel_rfl) (by kernel_rfl) (by kernel_rfl) 11 #[.tmp 115, .tmp 119] #[22, 22] (by kernel_rfl) #[.slice go g.length gcc, .slice jo g.length jcc] (by kernel_rfl) (enters_of Try.func11 (by kernel_rfl) rfl) (.bool true) ((SameC_any _ _ g _ hgl (HCh.keep hchG hHeld (Nat.le_refl _)) (HCh.keep hchJ hHeld (Nat.le_refl _))).mono (fun _ _ h => ⟨h.1, Below.trans hHeld (h.2.mono (Below.size hHeld))⟩)) ?_
      intro w12 hHeld
      simp only [Act.put, List.setIfInBounds_toArray, List.set_cons_zero, List.set_cons_succ]
      refine go_take 9 121 _ (.bool false) rfl (by kernel_rfl) (by kernel_rfl) (by kernel_rfl) (by kernel_rfl) (fun _ _ _ h => h) (Or.inl ⟨by kernel_rfl, fun u hu => by kernel_rfl⟩) hHeld ?_
      simp only [Act.put, List.setIfInBounds_toArray, List.set_cons_zero, List.set_cons_succ]
      refine wpAnyH_done (by kernel_rfl) ?_ _
      refine NoPanic.normal ?_
      have hK3 := hK2.keep hHeld
      have hoG3 := owns_keep hoG hHeld
      have hcG3 : w12.cell? ⟨gq, k, none⟩ = some (.slice go g.length gcc) := hcell_keep hHeld hcG0
      clear hoG hoJ hchG hchJ hcG hcJ hK2 hlow hHeld
      go_wp2
      go_loopw [21] (fun jv wr => ∃ (j : Nat) (L : List Ch), j ≤ g.length ∧ jv = .int .i64 (j : Int) ∧ Hid (L.length = g.length) ∧ Gk w5 w6.heap.size (.slice (some ⟨gq, 0, none⟩) G.length c16) (.slice (some ⟨iq, 0, none⟩) J.length c18) G (G.drop (k + 1)) J wr ∧ wr.ownsRow w5.heap.size 35 4 (.slice go g.length gcc) g.length (chcells L) ∧ wr.cell? ⟨gq, k, none⟩ = some (.slice go g.length gcc)) (fun jv _ => g.length - (intOf jv).toNat)
      case atStart => exact ⟨0, g, Nat.zero_le _, by go_num, rfl, hK3, hoG3, hcG3⟩
      case round =>
        obtain ⟨j, L, hj, rfl, HLl, hK, hoL, hcg⟩ := hrel
        clear hK3 hoG3
        by_cases hjl : j < g.length
        · obtain ⟨gb, rfl⟩ : ∃ gb, go = some ⟨gb, 0, none⟩ := (by
            rcases hoL.2 with ⟨_, h0⟩ | ⟨q, cap, cur, e, _⟩
            · omega
            · cases e
              exact ⟨q, rfl⟩)
          have hjL : j < L.length := by rw [HLl.out]; exact hjl
          have hc0 : (chcells L)[j * 4]? = some (.int .i64 L[j].A) := by rw [Nat.mul_comm]; exact (chcells_at L j hjL).1
          have d0 := (hoL.cellAt (j * 4) (by omega)).trans hc0
          have f0 := hoL.frozenAt (j * 4)
          have hst := (hoL.stored (j * 4) (.int .i64 (-3))).1
          rw [chcells_setA L j hjL (-3)] at hst
          have hdj := HDJ.out gb rfl
          have hK4 := hK.put (j := j * 4) (z := .int .i64 (-3)) hoL rfl hdj.1 hdj.2
          have hgq : gq ≠ gb := fun e => own_ne hoL hK.row (by decide) (g := gb) rfl (by rw [← e]; rfl)
          have hcg4 : (wr.setCell ⟨gb, j * 4, none⟩ (.int .i64 (-3))).cell? ⟨gq, k, none⟩ = some (.slice (some ⟨gb, 0, none⟩) g.length gcc) := (by
            rw [World.cell?_of_block (w := wr) ((grown_set wr gb (j * 4) (.int .i64 (-3))).block gq (World.block_lt_of_cell? _ _ hcg) (fun e => hgq (Option.some.inj e)))]
            exact hcg)
          have HL2 : Hid ((L.set j ⟨-3, L[j].AN, L[j].B, L[j].BN⟩).length = g.length) := (by show _ = _; rw [List.length_set]; exact HLl.out)
          have j1 : (0 : Int) ≤ (j : Int) := by omega
          have j2 : (j : Int) < (g.length : Int) := by omega
          clear hdj hgq hoL hK
          go_wp2
          go_roundw
          case rel => exact ⟨j + 1, _, by omega, by go_num, HL2, hK4, hst, hcg4⟩
          case measure => simp [intOf]; omega
        · have hend : decide ((j : Int) < (g.length : Int)) = false := decide_eq_false (by omega)
          go_wp2
          go_roundw
          case rel => exact ⟨k + 1, by omega, by go_num, hK⟩
          case measure => simp [intOf]; omega
    · have hend : decide ((k : Int) < (G.length : Int)) = false := decide_eq_false (by omega)
      have hB3r := hB35.trans (hK.low.mono hB35.size)
      go_wp2_with fail
      refine (SameC_any _ _ l wr (by omega) (HCh.keep hv9_3 hB3r (Nat.le_refl _)) (HCh.keep hvW hB3r (Nat.le_refl _))).mono ?_
      rintro e w12 ⟨rfl, hB12⟩
      have hBf := hBww3.trans (hB3r.mono hBww3.size)
      go_wp2
      go_ret
      exact ⟨rfl, hBf.trans (hB12.mono hBf.size)⟩
end Go.Proofs.Ythckcdpgjdbgcaa
namespace Go.Proofs.Ythckcdpgjdbgcaa.hunksMakes
open Go.ChangeShapes Go.WideShapes Go.ChangeAt Go.RowKit
theorem walk (l : List Ch) (a b : List (List UInt8)) (ctx : Int) (v va vb : Value) (w : World) (hl : l.length ≤ 1048576) (hal : a.length + a.flatten.length ≤ 1048576) (hbl : b.length + b.flatten.length ≤ 1048576) (_ : -9223372036854775808 ≤ ctx ∧ ctx ≤ 9223372036854775807) (hv : HCh w v l) (ha : HS w va a) (hb : HS w vb b) : Calls Try.prog 3 #[v, va, vb, .int .i64 ctx] w fun e w' => e = .returned (.bool true) ∧ Below w.heap.size w w' :=
  HunksMakes_any l a b ctx v va vb w hl hal hbl hv ha hb

set_option maxRecDepth 20000 in
theorem contract (H : Type) (enc : TypeId × Value → H) (W : World) (base : Nat) (args : Array Value) (ds gs : List (DataW H)) (before : List MemPlace)
    (hval : ∀ (j : Nat) t v, Try.f3.params[j]? = some t → args[j]? = some v → Value.okWide Try.prog W .any base t v)
    (hW : DataW.Whole enc Try.prog Try.f3.params.toList Rows.hunksMakesSpec.vars false W args.toList ds gs before) (hk : Rows.uptoSmall H (ds ++ gs) = true) :
    Calls Try.prog 3 args W fun e W' => ∃ v, e = .returned v ∧ Rows.hunksMakesSpec.post enc Try.prog Try.f3 false true false false W args v W' := by
  have hW' := hW
  obtain ⟨p, q, hA0, hV, rfl, hfz, hnd⟩ := hW
  have hA : DataW.TrodAll enc Try.prog W 0 (fun _ => true) true Try.f3.params.toList args.toList ds p := hA0
  rw [Try.params3] at hA hval
  obtain ⟨v0, vs0, d0, ds0, p0, q0, hargs, rfl, rfl, h0, r0⟩ := trodAll_cons hA
  obtain ⟨v1, vs1, d1, ds1, p1, q1, rfl, rfl, rfl, h1, r1⟩ := trodAll_cons r0
  obtain ⟨v2, vs2, d2, ds2, p2, q2, rfl, rfl, rfl, h2, r2⟩ := trodAll_cons r1
  obtain ⟨v3, vs3, d3, ds3, p3, q3, rfl, rfl, rfl, h3, r3⟩ := trodAll_cons r2
  obtain ⟨rfl, rfl, rfl⟩ := trodAll_nil r3
  obtain rfl : args = #[v0, v1, v2, v3] := by cases args; simp_all
  obtain ⟨rfl, rfl⟩ := trodVars_none hV
  obtain ⟨a0, len0, cap0, rfl⟩ := okWide_slice Try.underlying22 (hval 0 22 v0 rfl rfl)
  have k0 := h0
  have lt0 : ∀ x ∈ p0, x.block < W.heap.size := by obtain ⟨m, hm⟩ := k0; exact DataW.trod_lt m _ _ _ hm
  obtain ⟨a1, len1, cap1, rfl⟩ := okWide_slice Try.underlying23 (hval 1 23 v1 rfl rfl)
  have k1 := h1
  have lt1 : ∀ x ∈ p1, x.block < W.heap.size := by obtain ⟨m, hm⟩ := k1; exact DataW.trod_lt m _ _ _ hm
  obtain ⟨a2, len2, cap2, rfl⟩ := okWide_slice Try.underlying23 (hval 2 23 v2 rfl rfl)
  have k2 := h2
  have lt2 : ∀ x ∈ p2, x.block < W.heap.size := by obtain ⟨m, hm⟩ := k2; exact DataW.trod_lt m _ _ _ hm
  obtain ⟨n3, rfl, rfl, rfl, wn3⟩ := open_int Try.underlying3 (hval 3 3 v3 rfl rfl) h3
  clear hA0
  simp only [List.append_nil] at hk
  have hbk : Rows.uptoBulkAll [d0, d1, d2, .lit (.int .i64 n3)] ≤ 1048576 := of_decide_eq_true hk
  simp only [Rows.uptoBulkAll, Rows.uptoBulk] at hbk
  obtain ⟨f0, hf0⟩ := h0
  obtain ⟨ws0, hv0, hwl0, hwf0⟩ := open_chs (by simpa [Value.cells] using hf0)
  obtain ⟨f1, hf1⟩ := h1
  obtain ⟨ws1, hv1, hwl1⟩ := open_texts (by simpa [Value.cells] using hf1)
  obtain ⟨f2, hf2⟩ := h2
  obtain ⟨ws2, hv2, hwl2⟩ := open_texts (by simpa [Value.cells] using hf2)
  have hw := walk ws0 ws1 ws2 n3 (.slice a0 len0 cap0) (.slice a1 len1 cap1) (.slice a2 len2 cap2) W (by omega) (by omega) (by omega) (bounds_i64 wn3) hv0 hv1 hv2
  refine hw.mono fun e W' ⟨he, bel⟩ => ?_
  subst he
  exact ⟨_, rfl, _, _, _, [], _, [], hW', trodAll_mk1 (shut_bool Try.underlying4 _), trodAll_cons_mk (Below.trod laidOut (by kernel_rfl) (of_decide_eq_true (by kernel_rfl)) k0 bel lt0) (trodAll_cons_mk (Below.trod laidOut (by kernel_rfl) (of_decide_eq_true (by kernel_rfl)) k1 bel lt1) (trodAll_cons_mk (Below.trod laidOut (by kernel_rfl) (of_decide_eq_true (by kernel_rfl)) k2 bel lt2) (trodAll_cons_mk (shut_int Try.underlying3 wn3) trodAll_mk0))), rfl, bel.frame _, fun h => by cases h⟩

set_option maxRecDepth 100000 in
theorem lifted (os : Os) (started : os.Started) (H : Type) (enc : TypeId × Value → H) (F : Stop.Interp) :
    ReturnsInHanded {} Try.checked os 3 .any ((Rows.OpenSpec.upto Rows.hunksMakesSpec).pre6 enc Try.prog Try.f3 Rows.hunksMakesUptoRow.domain false) (((Rows.OpenSpec.upto Rows.hunksMakesSpec).at F).post enc Try.prog Try.f3 false true false false) := by
  refine returnsInHanded_of_cond (C := Try.checked) (s := Rows.OpenSpec.upto Rows.hunksMakesSpec) (k := Rows.uptoSmall) rfl own started (by kernel_rfl) Try.func3
    (OpenSpec.witness (enc := enc) (C := Try.checked) (s := Rows.OpenSpec.upto Rows.hunksMakesSpec) (k := Rows.uptoSmall) rfl false ⟨#[], #[.slice none 0 0, .slice none 0 0, .slice none 0 0, .int .i64 0], []⟩ 8 (by kernel_rfl) (by kernel_rfl) (by kernel_rfl)
      (x := ([.nil, .nil, .nil, .lit (.int .i64 0)], [], [])) (by kernel_rfl) rfl (by kernel_rfl)) ?_
  intro W base args ds gs before hval hW _ hk _
  exact contract H enc W base args ds gs before hval hW hk

theorem proved : Rows.HunksMakesUptoSaid :=
  OpenClaim.holds_of_cond 3 Try.f3 rfl rfl rfl rfl rfl rfl rfl ⟨rfl, rfl, rfl, rfl, rfl⟩ rfl rfl rfl rfl rfl (by kernel_rfl) Try.func3 (by kernel_rfl)
    (of_decide_eq_true (by kernel_rfl)) (by unfold Func.isWrapper; first | (rw [if_pos (by decide +kernel)]; kernel_rfl) | (rw [if_neg (by decide +kernel)]; exact ⟨rfl, rfl⟩))
    (fun os started H enc _ F => lifted os started H enc F)
#print axioms proved
end Go.Proofs.Ythckcdpgjdbgcaa.hunksMakes
