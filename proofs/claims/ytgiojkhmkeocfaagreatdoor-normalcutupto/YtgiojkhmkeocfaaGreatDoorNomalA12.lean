/-
  Texts that belong together, joined: NpI, NoPs, NpN, NpX, NpC, NoLs, NoCm, NpD.
-/
import Derived.Test.YtgiojkhmkeocfaaGreatDoorNomalA11
import Derived.Test.YtgiojkhmkeocfaaGreatDoorNomalA10
import Derived.Lib.OthersKept
import Derived.Laws.RangeAny
import Derived.Lib.IndexAny
import Derived.Deep.QuietTactic
import Derived.BigQuiet
import Derived.Deep.CutBlock
import Derived.Test.YtgiojkhmkeocfaaGreatDoorNomalA4

/- The code's reader, walked: a side of a hunk. -/
set_option maxRecDepth 20000
namespace Go.Proofs.YtgiojkhmkeocfaaGreatDoor
open Go.RowKit
attribute [local go_sem] ByteArray.extract_mk no_at

/-- texts with their line feeds, none too long -/
def Fd (m : List Mk) : Prop := ∀ x ∈ m, fdB x.tx = true ∧ x.tx.length ≤ 1099511627776
theorem sdC_err {sg : List UInt8} {S : Int} {n p : Nat} {ls : List (List UInt8)} {e : Nat × Int} (h : rdL sg S n p ls = .error e) : sdC sg S n p ls = .error e := by
  unfold sdC
  rw [h]
set_option maxHeartbeats 8000000 in
set_option maxRecDepth 4000 in
theorem nside_f {B R : Nat} {L : List (List UInt8)} {lo : Option Addr} {lc : Nat} {p : Nat} (w : World) (q : Ry w R (.slice lo L.length lc) p) (HL : Hid (∀ u, Fr B R w u → HS u (.slice lo L.length lc) L)) (HPl : Hid (Plain L)) (hp : p ≤ L.length) (hLl : L.length ≤ 2199023255552) (HSl : Hid (∀ s ∈ L, s.length ≤ 1099511627776))
    (hB : B ≤ w.heap.size) (hRB : R < B) (sg : List UInt8) (HSG : Hid (∀ c ∈ sg, c ≠ 10)) (S : Int) (n : Nat) (hn : n ≤ 2147483647) (v : Value) (m0 : List Mk) (hm0 : m0.length ≤ 1099511627776) (hv : w.ownsRow B 103 2 v m0.length (mkcells m0))
    (X : Except (Nat × Int) (List Mk × Nat × List (List UInt8))) (HX : Hid (sdC sg S n p (L.drop p) = X)) :
    Calls Tryz.prog 140 #[.pointer (some ⟨R, 0, none⟩), v, .int .i64 (n : Int), .string ⟨sg.toArray⟩, .int .u8 S] w fun x w' => SdQ B R (.slice lo L.length lc) m0 X w x w' := by
  obtain ⟨vo, vc, rfl⟩ := (holds_of hv).form
  obtain ⟨Y, hY⟩ : ∃ Y, rdL sg S n p (L.drop p) = Y := ⟨_, rfl⟩
  have HY : Hid (thenL [] (rdL sg S (n - 0) p (L.drop p)) = Y) := (by show _ = _; rw [thenL_nil]; exact hY)
  have HXE : Hid (∀ e, Y = .error e → X = .error e) := (by
    intro e he
    rw [← HX.out]
    exact sdC_err (hY.trans he))
  have HXO : Hid (∀ l p1 r, Y = .ok (l, p1, r) → X = if (decide (0 < n) && endK l r) = true then .ok (cutL l, p1 + 1, r.tail) else .ok (l, p1, r)) := (by
    intro l p1 r he
    rw [← HX.out]
    unfold sdC
    rw [hY.trans he])
  have hv0 : w.ownsRow B 103 2 (.slice vo m0.length vc) m0.length (mkcells (m0 ++ [])) := (by rw [List.append_nil]; exact hv)
  have HF0 : Hid (Fd [] ∧ ([] : List Mk).length = 0 ∧ (m0 ++ []).length = m0.length) := ⟨(fun x hx => by cases hx), rfl, by rw [List.append_nil]⟩
  clear hY HX hv
  go_enter Tryz.func140, Tryz.ntmps140
  go_wp2
  go_loopw [1, 14] (fun mv i wr => ∃ (k : Nat) (m : List Mk) (p' N : Nat), k ≤ n ∧ i = .int .i64 (k : Int) ∧ N ≤ 1099511627776 + k ∧ (∃ o c, mv = .slice o N c) ∧ wr.ownsRow B 103 2 mv N (mkcells (m0 ++ m)) ∧ Ry wr R (.slice lo L.length lc) (p' : Int) ∧ Fr B R w wr ∧ p' ≤ L.length ∧ Hid (Fd m ∧ m.length = k ∧ (m0 ++ m).length = N) ∧ Hid (thenL m (rdL sg S (n - k) p' (L.drop p')) = Y)) (fun _ i _ => n - (intOf i).toNat)
  case atStart => exact ⟨0, [], p, m0.length, Nat.zero_le _, by go_num, by omega, ⟨vo, vc, rfl⟩, hv0, q, Fr.refl _ _ _, hp, HF0, HY⟩
  case round =>
  obtain ⟨k, m, p1, N, hk, rfl, hNk, ⟨o, c, rfl⟩, hown, q1, hF, hp1, HF, HI⟩ := hrel
  have hsz := hF.size
  have hLr := HL.out wr hF
  by_cases hlt : k < n
  · obtain ⟨Z, hZ⟩ : ∃ Z, nxt p1 (L.drop p1) = Z := ⟨_, rfl⟩
    have hl := nline_f wr q1 hLr hp1 hLl HSl.out Z hZ
    have hnk : n - k = (n - (k + 1)) + 1 := by omega
    cases Z with
    | error z =>
      obtain ⟨a, e⟩ := z
      have hXe : X = .error (a, e) := (by
        apply HXE.out
        rw [← HI.out, hnk]
        unfold thenL rdL
        rw [hZ])
      subst hXe
      have HDone : Hid (∀ u, wr.grownBy u (some R) → Fr B R w u) := fun u hu => hF.trans (Fr.of hu (Nat.le_trans hB hsz))
      clear HXE HXO HI hZ hown hnk
      go_wp2_with fail
      refine hl.mono ?_
      rintro x w1 ⟨⟨g, rfl, hg⟩, hgr⟩
      go_wp2
      exact ⟨rfl, ⟨_, rfl, hg⟩, HDone.out _ hgr⟩
    | ok z =>
      obtain ⟨s, r⟩ := z
      obtain ⟨hr, hpl, _, hLp⟩ := nxt_rest hZ
      have hsl := HSl.out L[p1] (List.getElem_mem hpl)
      rw [hLp, List.length_append] at hsl
      have hst := rdL_succ (sg := sg) (S := S) (n := n - (k + 1)) hZ m
      rw [← hnk, HI.out] at hst
      obtain ⟨T, hT⟩ : ∃ T, s ++ [10] = T := ⟨_, rfl⟩
      obtain ⟨U, hU⟩ : ∃ U, s.drop sg.length ++ [10] = U := ⟨_, rfl⟩
      have hUl : U.length ≤ 1099511627776 := (by rw [← hU, List.length_append, List.length_drop]; simp only [List.length_cons, List.length_nil] at hsl ⊢; omega)
      have hUf : fdB U = true := (by rw [← hU]; exact fd_snoc _)
      have hl2 : Calls Tryz.prog 138 #[.pointer (some ⟨R, 0, none⟩)] wr fun x w' => x = .returned (.string ⟨T.toArray⟩) ∧ ∃ n, w' = wr.drewN n := (by
        refine hl.mono ?_
        rintro x w' ⟨h1, h2⟩
        rw [hT] at h1
        exact ⟨h1, h2⟩)
      have hc := fun u => Tryz.strings_CutPrefix ⟨T.toArray⟩ ⟨sg.toArray⟩ u
      have hpf : Lib.hasPrefix (⟨T.toArray⟩ : ByteArray).data.toList (⟨sg.toArray⟩ : ByteArray).data.toList = sg.isPrefixOf s := (by
        show Lib.hasPrefix T sg = _
        rw [← hT]
        exact pre_feed HSG.out)
      rw [hpf] at hc
      by_cases hpre : sg.isPrefixOf s = true
      · rw [if_pos hpre, hU, hr] at hst
        have htr : Lib.trimPrefix (⟨T.toArray⟩ : ByteArray).data.toList (⟨sg.toArray⟩ : ByteArray).data.toList = U := (by
          show Lib.trimPrefix T sg = _
          rw [← hT, ← hU]
          exact trim_feed HSG.out hpre)
        rw [htr, hpre] at hc
        have HI2 : Hid (thenL (m ++ [⟨S, U⟩]) (rdL sg S (n - (k + 1)) (p1 + 1) (L.drop (p1 + 1))) = Y) := hst.symm
        have HF2 : Hid (Fd (m ++ [⟨S, U⟩]) ∧ (m ++ [(⟨S, U⟩ : Mk)]).length = k + 1 ∧ (m0 ++ (m ++ [(⟨S, U⟩ : Mk)])).length = N + 1) := ⟨(by
          intro x hx
          rcases List.mem_append.1 hx with hx | hx
          · exact HF.out.1 x hx
          · rw [List.mem_singleton.1 hx]
            exact ⟨hUf, hUl⟩), (by have := HF.out.2.1; simp [this]), (by have := HF.out.2.2; rw [← List.append_assoc, List.length_append, this]; rfl)⟩
        clear hst hpf htr hpre hZ hl hLp hsl hUf hr HI HXE HXO hT hU HF hnk
        go_wp2_with fail
        refine hl2.mono ?_
        rintro x w1 ⟨rfl, nn, rfl⟩
        have q2 := q1.dN nn
        have hown2 : (wr.drewN nn).ownsRow B 103 2 (.slice o N c) N (mkcells (m0 ++ m)) := hown
        have hF2 : Fr B R w (wr.drewN nn) := hF.trans ⟨rfl, rfl, rfl, Nat.le_refl _, fun _ _ _ => rfl⟩
        clear q1 hown hF hLr hl2
        generalize wr.drewN nn = W1 at q2 hown2 hF2 ⊢
        go_wp2_with fail
        refine (hc W1).mono ?_
        rintro x w2 ⟨rfl, rfl⟩
        have hsz2 := hF2.size
        have hrow := mk_row w2 ⟨S, U⟩
        have hownA := hown2.alloc (mkO ⟨S, U⟩)
        have qA : Ry (w2.alloc (mkO ⟨S, U⟩)) R (.slice lo L.length lc) (p1 : Int) := q2.low ((Below.refl _ w2).alloc (Nat.le_refl _) _)
        have hFA : Fr B R w (w2.alloc (mkO ⟨S, U⟩)) := hF2.trans (Fr.of (World.grownBy_alloc w2 _ _) (Nat.le_trans hB hsz2))
        have HS2 : Hid ((w2.alloc (mkO ⟨S, U⟩)).heap.size = w2.heap.size + 1) := (by show _ = _; simp)
        have hW : w2.alloc (Obj.cells #[Value.int IntKind.u8 S, Value.string ⟨U.toArray⟩] 103) = w2.alloc (mkO ⟨S, U⟩) := rfl
        have hxk : N + 1 ≤ 2199023255552 := by omega
        clear hown2 q2 hF2 hc
        go_wp2_with (at_builtin; refine wpList_append_w _ (by kernel_rfl) (.tmp 27) (.tmp 31) 57 103 (.agg #[.int .u8 0, .string ⟨#[]⟩]) 2 24 rfl Tryz.underlying57 infoMk rfl (by decide) (by decide) B _ _ _ rfl hownA _ 1 (mkcells [⟨S, U⟩]) rfl hrow (mkcells_length _) (mkcells_one _) hxk (by have := HS2.out; omega) ?_)
        intro v3 u3 hown3 hg3 _
        rw [← mkcells_append, List.append_assoc] at hown3
        have hne3 : (some R : Option Nat) ≠ (Value.slice o N c).ownBlock := (by
          intro e
          have := owns_ge hownA e.symm
          omega)
        have q3 := qA.keep hg3 hne3
        have hF3 := hFA.trans (Fr.own (R := R) hg3 (by have := HS2.out; omega) (fun j hj => owns_ge hownA hj))
        obtain ⟨o3, c3, rfl⟩ := (holds_of hown3).form
        obtain ⟨d0, d1⟩ := q3.cells
        have f1 := q3.frozen 1
        have q4 := q3.at ((p1 : Int) + 1)
        have hg4 := grown_set u3 R 1 (.int .i64 ((p1 : Int) + 1))
        have hown4 := owns_fr hown3 hg4 hRB
        have hsz3 := hF3.size
        have hF4 := hF3.trans (Fr.of hg4 (Nat.le_trans hB hsz3))
        clear hW hg3 hownA hown3 hrow qA hFA q3 hF3 hg4 HS2
        go_wp2
        refine ⟨⟨k + 1, m ++ [⟨S, U⟩], p1 + 1, N + 1, by omega, by go_num, by omega, ⟨o3, c3, rfl⟩, hown4, by simpa using q4, hF4, by omega, HF2, HI2⟩, by simp [intOf]; omega⟩
      · have hXe : X = .error (p1 + 1, 3) := (by
          apply HXE.out
          rw [hst, if_neg hpre])
        have hpr2 : sg.isPrefixOf s = false := Bool.eq_false_iff.2 hpre
        rw [hpr2] at hc
        subst hXe
        have HDone : Hid (∀ u, wr.grownBy u (some R) → Fr B R w u) := fun u hu => hF.trans (Fr.of hu (Nat.le_trans hB hsz))
        have q2 := fun nn => q1.dN nn
        clear HXE HXO HI hZ hown hnk hst hpf hpre hpr2 hl hLp hsl hr hT hU
        generalize Lib.trimPrefix (⟨T.toArray⟩ : ByteArray).data.toList (⟨sg.toArray⟩ : ByteArray).data.toList = U2 at hc
        go_wp2_with fail
        refine hl2.mono ?_
        rintro x w1 ⟨rfl, nn, rfl⟩
        go_wp2_with fail
        refine (hc _).mono ?_
        rintro x w2 ⟨rfl, rfl⟩
        go_wp2_with fail
        refine (nthrow_f 3 _ (q2 nn) (by omega)).mono ?_
        rintro e w3 ⟨⟨g, rfl, hg⟩, hgr⟩
        go_wp2
        exact ⟨rfl, ⟨_, rfl, by simpa using hg⟩, HDone.out _ (grown_two (grown_drewN (low_grown (Below.refl wr.heap.size wr) (some R)) nn) hgr)⟩
  · have hkn : k = n := by omega
    subst hkn
    have hYv : Y = .ok (m, p1, L.drop p1) := (by
      rw [← HI.out, Nat.sub_self]
      simp [thenL, rdL])
    have hXv := HXO.out m p1 (L.drop p1) hYv
    have hend : decide ((k : Int) < (k : Int)) = false := decide_eq_false (by omega)
    clear HXE HXO HI hYv HL
    by_cases h0 : 0 < k
    · have h0d : decide (0 < k) = true := decide_eq_true h0
      rw [h0d, Bool.true_and] at hXv
      obtain ⟨m1, mk, hmm⟩ : ∃ m1 mk, m = m1 ++ [mk] := (by
        have hne : m ≠ [] := (by
          rintro rfl
          have := HF.out.2.1
          simp at this
          omega)
        exact ⟨m.dropLast, m.getLast hne, (List.dropLast_concat_getLast hne).symm⟩)
      subst hmm
      have hfd := HF.out.1 mk (by simp)
      obtain ⟨N1, hN1⟩ : ∃ N1, (m0 ++ m1).length = N1 := ⟨_, rfl⟩
      have hNN : N = N1 + 1 := (by have := HF.out.2.2; rw [← this, ← hN1]; simp; omega)
      subst hNN
      have hown' := hown
      rw [← hN1, ← List.append_assoc] at hown'
      obtain ⟨g, cap, hvv, hBg, hgs, d1, df, hset⟩ := owns_last hown'
      rw [hN1] at d1 df hset hvv
      injection hvv with hv1 hv2 hv3
      subst hv1 hv3
      have hgR : R ≠ g := by omega
      unfold endK at hXv
      rw [lastT_snoc, cutL_snoc] at hXv
      have HNn : Hid (∀ x : Mk, (m0 ++ (m1 ++ [x])).length = N1 + 1) := (by intro x; rw [← hN1]; simp; omega)
      clear hown' hN1 HF
      have j0 : (0 : Int) < (k : Int) := by omega
      have j1 : (0 : Int) ≤ (N1 : Int) := by omega
      have j2 : (N1 : Int) < (N1 : Int) + 1 := by omega
      have j3 : (N1 : Int) + 1 - 1 = (N1 : Int) := by omega
      have j4 : IntKind.i64.wrap (N1 : Int) = (N1 : Int) := wrap_s (by omega) (by omega)
      cases hb : (mk.tx != [10] && pkM (L.drop p1)) with
      | false =>
        rw [hb, if_neg (by decide)] at hXv
        subst hXv
        have he := nend_no (g := g) (o := N1 * 2) wr q1 hLr HPl.out hp1 hLl mk.tx d1 hb
        clear hb hset df hfd
        go_wp2_with fail
        refine he.mono ?_
        rintro x w1 ⟨rfl, nn, rfl⟩
        go_wp2
        go_ret
        exact ⟨_, rfl, by rw [HNn.out]; exact hown, q1, hF.trans ⟨rfl, rfl, rfl, Nat.le_refl _, fun _ _ _ => rfl⟩⟩
      | true =>
        rw [hb, if_pos rfl] at hXv
        subst hXv
        have HTt : Hid (mk.tx = mk.tx.dropLast ++ [10]) := fd_form hfd.1
        have he := nend_yes (g := g) (o := N1 * 2) wr q1 hLr HPl.out hLl hgR mk.tx mk.tx.dropLast HTt hfd.2 d1 df hb
        have hs2 := fun nn => hset (wr.drewN nn) mk.tx.dropLast rfl
        clear hb hset df hfd
        go_wp2_with fail
        refine he.mono ?_
        rintro x w1 ⟨rfl, nn, rfl⟩
        have hg1 := grown_set (wr.drewN nn) g (N1 * 2 + 1) (.string ⟨mk.tx.dropLast.toArray⟩)
        have q2 := ((q1.dN nn).keep hg1 (fun e => hgR (Option.some.inj e))).at ((p1 : Int) + 1)
        have hg2 := grown_set ((wr.drewN nn).setCell ⟨g, N1 * 2 + 1, none⟩ (.string ⟨mk.tx.dropLast.toArray⟩)) R 1 (.int .i64 ((p1 : Int) + 1))
        have hown2 := owns_fr (hs2 nn) hg2 hRB
        have hF1 : Fr B R w (wr.drewN nn) := hF.trans ⟨rfl, rfl, rfl, Nat.le_refl _, fun _ _ _ => rfl⟩
        have hF2 := hF1.trans (Fr.own (R := R) hg1 (Nat.le_trans hB hsz) (fun j hj => by cases hj; exact hBg))
        have hF3 := hF2.trans (Fr.of hg2 (Nat.le_trans hB hF2.size))
        go_wp2
        go_ret
        refine ⟨_, rfl, ?_, by simpa using q2, hF3⟩
        rw [HNn.out, ← List.append_assoc]
        exact hown2
    · have h0d : decide (0 < k) = false := decide_eq_false h0
      rw [h0d, Bool.false_and, if_neg (by decide)] at hXv
      subst hXv
      have j0 : ¬ (0 : Int) < (k : Int) := by omega
      go_wp2
      go_ret
      exact ⟨_, rfl, by rw [HF.out.2.2]; exact hown, q1, hF⟩
end Go.Proofs.YtgiojkhmkeocfaaGreatDoor

/- The plain Parse of the reference, walked anew over the normal form's texts. -/
set_option maxRecDepth 20000
namespace Go.Proofs.YtgiojkhmkeocfaaGreatDoor
open Pn Go.RowKit
attribute [local go_sem] no_at

theorem ret_pair {k k' : IntKind} {a b a' b' : Int} (h : a = a') (h' : b = b') : Ending.returned (.tuple #[.int k a, .int k' b]) = .returned (.tuple #[.int k a', .int k' b']) := by rw [h, h']
end Go.Proofs.YtgiojkhmkeocfaaGreatDoor

/- The code's isNumber and Parse of layer 1, walked anew over the normal form's texts: what they return is what the plain functions isNum, parseV and parseE say. -/
set_option maxRecDepth 20000
namespace Go.Proofs.YtgiojkhmkeocfaaGreatDoor
open Pn Go.RowKit
attribute [local go_sem] no_at

set_option maxHeartbeats 2000000 in
theorem nisNumber_loop (L : List UInt8) (w : World) (hl : L.length ≤ maxLen) (h0 : 0 < L.length) (hz : (((L[0].toNat : Int) == 48) = false) ∨ ((((L[0].toNat : Int) == 48) = true) ∧ (L.length : Int) ≤ 1))
    (HY : Hid ((∀ k (hk : k < L.length), 48 ≤ L[k].toNat ∧ L[k].toNat ≤ 57) → isNum L = true)) :
    Calls Tryz.prog 275 #[.string ⟨L.toArray⟩] w fun e w' => e = .returned (.bool (isNum L)) ∧ Below w.heap.size w w' := by
  unfold maxLen at hl
  have hne : L.isEmpty = false := by cases L; simp at h0; rfl
  have hnil : ¬ L = [] := by intro h; rw [h] at h0; simp at h0
  rcases hz with hz | ⟨hz, hz1⟩
  all_goals
    go_enter Tryz.func275, Tryz.ntmps275
    go_wp2
    go_loopw [] (fun wr => ∃ pos : Nat, pos ≤ L.length ∧ wr.heap[w.heap.size]? = some (.stringIter ⟨L.toArray⟩ pos) ∧ Below w.heap.size w wr ∧ (∀ k (hk : k < L.length), k < pos → 48 ≤ L[k].toNat ∧ L[k].toNat ≤ 57)) (fun wr => L.length - wr.iterPos w.heap.size)
    case atStart =>
      refine ⟨0, Nat.zero_le _, World.iter_heap w _ 0, (Below.refl _ w).alloc (Nat.le_refl _) _, fun k _ h => by omega⟩
    case round =>
      obtain ⟨pos, hp, hit, hbr, hall⟩ := hrel
      have HA : Hid (∀ k (hk : k < L.length), k < pos → 48 ≤ L[k].toNat ∧ L[k].toNat ≤ 57) := hall
      clear hall
      have hss : (⟨L.toArray⟩ : ByteArray).size = L.length := rfl
      by_cases hlt : pos < L.length
      · by_cases ha : L[pos].toNat < 128
        · have hnx : ∀ ty, (Instr.next (.pointer (some ⟨w.heap.size, 0, none⟩)) true ty).run Tryz.prog wr = _ := fun ty => Lib.run_next_ascii_at wr w.heap.size ⟨L.toArray⟩ pos ty hit hlt ha
          have hit2 := Lib.iterAt_heap wr w.heap.size ⟨L.toArray⟩ pos (pos + 1) hit
          have hbr2 := Lib.below_iterAt hbr (k := w.heap.size) (Nat.le_refl _) ⟨L.toArray⟩ (pos + 1)
          by_cases hd : 48 ≤ L[pos].toNat ∧ L[pos].toNat ≤ 57
          · obtain ⟨hd1, hd2⟩ := hd
            go_wp2
            go_roundw
            case rel =>
              refine ⟨pos + 1, by omega, hit2, hbr2, fun k hk h => ?_⟩
              by_cases e : k = pos
              · subst e; exact ⟨hd1, hd2⟩
              · exact HA.out k hk (by omega)
            case measure => simp only [World.iterPos, hit, hit2]; omega
          · have HN : Hid (isNum L = false) := isNum_bad pos hlt hd
            by_cases hd1 : L[pos].toNat < 48
            · clear hd
              go_wp2
              go_ret
              exact ⟨ret_bool HN.out.symm, hbr2⟩
            · have hd2 : 57 < L[pos].toNat := by omega
              clear hd
              go_wp2
              go_ret
              exact ⟨ret_bool HN.out.symm, hbr2⟩
        · have HN : Hid (isNum L = false) := isNum_bad pos hlt (by omega)
          have hdh := (decode_high ⟨L.toArray⟩ pos hlt (by show 128 ≤ L[pos].toNat; omega)).1
          have hnx : ∀ ty, (Instr.next (.pointer (some ⟨w.heap.size, 0, none⟩)) true ty).run Tryz.prog wr = _ := fun ty => Lib.run_next_any_at wr w.heap.size ⟨L.toArray⟩ pos ty hit hlt
          have hbr2 := Lib.below_iterAt hbr (k := w.heap.size) (Nat.le_refl _) ⟨L.toArray⟩ (pos + (Utf8.decode ⟨L.toArray⟩ pos).2)
          have hdl := decode_le ⟨L.toArray⟩ pos
          generalize Utf8.decode ⟨L.toArray⟩ pos = dd at *
          have q1 : ¬ ((dd.1 : Int) < 48) := by omega
          have q2 : 57 < (dd.1 : Int) := by omega
          go_wp2
          go_ret
          exact ⟨ret_bool HN.out.symm, hbr2⟩
      · have hnx : ∀ ty, (Instr.next (.pointer (some ⟨w.heap.size, 0, none⟩)) true ty).run Tryz.prog wr = _ := fun ty => Lib.run_next_end_at wr w.heap.size ⟨L.toArray⟩ pos ty hit hlt
        have HN : Hid (isNum L = true) := HY.out fun k hk => HA.out k hk (by omega)
        go_wp2
        go_ret
        exact ⟨ret_bool HN.out.symm, hbr⟩

set_option maxHeartbeats 1000000 in
theorem nisNumber_any (l : List UInt8) (w : World) (hl : l.length ≤ maxLen) :
    Calls Tryz.prog 275 #[.string ⟨l.toArray⟩] w fun e w' => e = .returned (.bool (isNum l)) ∧ Below w.heap.size w w' := by
  match l, hl with
  | [], _ =>
    go_enter Tryz.func275, Tryz.ntmps275
    go_wp2
    go_ret
    exact ⟨rfl, Below.refl _ _⟩
  | [c], hl =>
    refine nisNumber_loop [c] w hl (by simp) ?_ (isNum_yes (by simp))
    cases h : ((([c] : List UInt8)[0].toNat : Int) == 48)
    · exact .inl rfl
    · exact .inr ⟨rfl, by simp⟩
  | c :: d :: t, hl =>
    by_cases h : c.toNat = 48
    · have hb : ((c.toNat : Int) == 48) = true := by simp; omega
      have HN : Hid (isNum (c :: d :: t) = false) := isNum_zero h
      have hl2 : (1 : Int) < (t.length : Int) + 1 + 1 := by omega
      clear h
      go_enter Tryz.func275, Tryz.ntmps275
      go_wp2
      go_ret
      exact ⟨ret_bool HN.out.symm, Below.refl _ _⟩
    · refine nisNumber_loop (c :: d :: t) w hl (by simp) (.inl ?_) (isNum_yes (by simp [h]))
      simp; omega

set_option maxHeartbeats 2000000 in
theorem nParse_any (l : List UInt8) (w : World) (hl : l.length ≤ maxLen) :
    Calls Tryz.prog 245 #[.string ⟨l.toArray⟩] w fun e w' => e = .returned (.tuple #[.int .i64 (parseV l), .int .i64 (parseE l)]) ∧ Below w.heap.size w w' := by
  go_enter Tryz.func245, Tryz.ntmps245
  go_wp2_with fail
  refine (nisNumber_any l _ hl).mono ?_
  rintro e w1 ⟨rfl, hb1⟩
  unfold maxLen at hl
  cases hn : isNum l
  · have HN : Hid (isNum l = false) := hn
    go_wp2
    go_ret2
    have h := parse_no HN.out
    exact ⟨ret_pair h.1 h.2, hb1⟩
  · have HN : Hid (isNum l = true) := hn
    have hal := isNum_all hn
    have HAL : Hid (l.all digB = true) := hal
    clear hal
    go_wp2
    go_loopw [4] (fun n wr => ∃ (pos : Nat) (v : Int), pos ≤ l.length ∧ n = .int .i64 v ∧ 0 ≤ v ∧ v ≤ 2147483647 ∧ wr.heap[w1.heap.size]? = some (.stringIter ⟨l.toArray⟩ pos) ∧ Below w.heap.size w wr ∧ sat v (l.drop pos) = sat 0 l) (fun _ wr => l.length - wr.iterPos w1.heap.size)
    case atStart =>
      refine ⟨0, 0, Nat.zero_le _, rfl, by omega, by omega, World.iter_heap w1 _ 0, hb1.alloc hb1.size _, rfl⟩
    case round =>
      obtain ⟨pos, v, hp, rfl, hv0, hv1, hit, hbr, hsat⟩ := hrel
      have HS : Hid (sat v (l.drop pos) = sat 0 l) := hsat
      clear hsat
      have hss : (⟨l.toArray⟩ : ByteArray).size = l.length := rfl
      have hz1 := hb1.size
      by_cases hlt : pos < l.length
      · have hd := all_at HAL.out pos hlt
        obtain ⟨hd1, hd2⟩ := hd
        have HS2 : Hid (sat (min (v * 10 + ((l[pos].toNat : Int) - 48)) 2147483648) (l.drop (pos + 1)) = sat 0 l) := by
          show sat _ _ = _
          rw [← sat_step hlt]; exact HS.out
        have hnx : ∀ ty, (Instr.next (.pointer (some ⟨w1.heap.size, 0, none⟩)) true ty).run Tryz.prog wr = _ := fun ty => Lib.run_next_ascii_at wr w1.heap.size ⟨l.toArray⟩ pos ty hit hlt (by show l[pos].toNat < 128; omega)
        have hit2 := Lib.iterAt_heap wr w1.heap.size ⟨l.toArray⟩ pos (pos + 1) hit
        have hbr2 := Lib.below_iterAt hbr (k := w1.heap.size) hb1.size ⟨l.toArray⟩ (pos + 1)
        by_cases hfar : (2147483647 - ((l[pos].toNat : Int) - 48)) / 10 < v
        · have HF : Hid (sat 0 l = 2147483648) := by
            have e : min (v * 10 + ((l[pos].toNat : Int) - 48)) 2147483648 = 2147483648 := by omega
            have h := HS2.out
            rw [e, sat_top _ (all_drop HAL.out _)] at h
            exact h.symm
          go_wp2
          go_ret2
          have h := parse_far HN.out HF.out
          exact ⟨ret_pair h.1 h.2, hbr2⟩
        · go_wp2
          go_roundw
          case rel =>
            refine ⟨pos + 1, v * 10 + ((l[pos].toNat : Int) - 48), by omega, rfl, by omega, by omega, hit2, hbr2, ?_⟩
            have e : min (v * 10 + ((l[pos].toNat : Int) - 48)) 2147483648 = v * 10 + ((l[pos].toNat : Int) - 48) := by omega
            rw [← HS2.out, e]
          case measure => simp only [World.iterPos, hit, hit2]; omega
      · have hnx : ∀ ty, (Instr.next (.pointer (some ⟨w1.heap.size, 0, none⟩)) true ty).run Tryz.prog wr = _ := fun ty => Lib.run_next_end_at wr w1.heap.size ⟨l.toArray⟩ pos ty hit hlt
        have HF : Hid (sat 0 l = v) := by
          have h := HS.out
          rw [List.drop_eq_nil_of_le (by omega)] at h
          exact h.symm
        go_wp2
        go_ret2
        have h := parse_ok HN.out HF.out hv1
        exact ⟨ret_pair h.1 h.2, hbr⟩
end Go.Proofs.YtgiojkhmkeocfaaGreatDoor

/- strings.IndexAny at the letters a, c, d, and strings.Cut at a comma, for every text. -/
set_option maxRecDepth 20000
namespace Go.Proofs.YtgiojkhmkeocfaaGreatDoor
open Go.RowKit
attribute [local go_sem] no_at ByteArray.extract_mk

theorem ret_int1 {k : IntKind} {a b : Int} (h : a = b) : Ending.returned (.int k a) = .returned (.int k b) := by rw [h]
theorem get_bang (s : ByteArray) (k : Nat) (h : k < s.size) : s.get! k = s[k] := by
  simp [ByteArray.get!, getElem!_pos, h]
  rfl

/-- every byte of a letter that begins with a byte from 128 on is such a byte, and lies in the text -/
theorem decode_rest (s : ByteArray) (pos : Nat) (h : pos < s.size) (ha : 128 ≤ (s[pos]'h).toNat) (k : Nat) (hk : k < (Utf8.decode s pos).2) : ∃ hq : pos + k < s.size, 128 ≤ (s[pos + k]'hq).toNat := by
  by_cases hk0 : k = 0
  · subst hk0; exact ⟨h, ha⟩
  have hn : ¬ (s.get! (pos + 0)).toNat < 128 := by rw [Nat.add_zero, get_bang s pos h]; omega
  have key : ∀ j, (decide (pos + j < s.size) && (s.get! (pos + j)).toNat / 64 == 2) = true → ∃ hq : pos + j < s.size, 128 ≤ (s[pos + j]'hq).toNat := by
    intro j hj
    simp only [Bool.and_eq_true, decide_eq_true_eq, beq_iff_eq] at hj
    refine ⟨hj.1, ?_⟩
    rw [← get_bang s (pos + j) hj.1]
    omega
  revert hk
  unfold Utf8.decode
  simp only [hn, if_false]
  split
  · rename_i h2
    simp only [Bool.and_eq_true] at h2
    split
    · intro hk
      have : k = 1 := by simp at hk; omega
      subst this
      exact key 1 (by simp only [Bool.and_eq_true]; exact h2.2)
    · intro hk; simp at hk; omega
  · split
    · rename_i h2
      simp only [Bool.and_eq_true] at h2
      split
      · intro hk
        have : k = 1 ∨ k = 2 := by simp at hk; omega
        rcases this with rfl | rfl
        · exact key 1 (by simp only [Bool.and_eq_true]; exact h2.1.2)
        · exact key 2 (by simp only [Bool.and_eq_true]; exact h2.2)
      · intro hk; simp at hk; omega
    · split
      · rename_i h2
        simp only [Bool.and_eq_true] at h2
        split
        · intro hk
          have : k = 1 ∨ k = 2 ∨ k = 3 := by simp at hk; omega
          rcases this with rfl | rfl | rfl
          · exact key 1 (by simp only [Bool.and_eq_true]; exact h2.1.1.2)
          · exact key 2 (by simp only [Bool.and_eq_true]; exact h2.1.2)
          · exact key 3 (by simp only [Bool.and_eq_true]; exact h2.2)
        · intro hk; simp at hk; omega
      · intro hk; simp at hk; omega

theorem enc_form (r : Int) (hv : Utf8.valid r = true) (h128 : 128 ≤ r) : (∃ a b : UInt8, 128 ≤ b.toNat ∧ Utf8.encode r = ⟨([a, b] : List UInt8).toArray⟩) ∨ (∃ a b c : UInt8, 128 ≤ c.toNat ∧ Utf8.encode r = ⟨([a, b, c] : List UInt8).toArray⟩) ∨ (∃ a b c d : UInt8, Utf8.encode r = ⟨([a, b, c, d] : List UInt8).toArray⟩) := by
  have hc : ¬ r.toNat < 128 := by omega
  unfold Utf8.encode
  simp only [hv, if_true, hc, if_false]
  split
  · refine .inl ⟨_, _, ?_, rfl⟩
    simp; omega
  · split
    · refine .inr (.inl ⟨_, _, _, ?_, rfl⟩)
      simp; omega
    · exact .inr (.inr ⟨_, _, _, _, rfl⟩)

theorem valid_of (r : Int) (h : Lib.validRune r = true) : Utf8.valid r = true := by
  simp [Lib.validRune, Utf8.valid] at h ⊢
  omega

theorem idx_nil (x : Int) (u : World) : Calls Tryz.prog 272 #[.string ⟨#[]⟩, .int .u8 x] u fun e w' => e = .returned (.int .i64 (-1)) ∧ w' = u := Tryz.strings_IndexByte ⟨#[]⟩ x u
theorem idx_d (b : UInt8) (hb : 128 ≤ b.toNat) (u : World) : Calls Tryz.prog 272 #[.string ⟨#[100]⟩, .int .u8 (b.toNat : Int)] u fun e w' => e = .returned (.int .i64 (-1)) ∧ w' = u := by
  refine (Tryz.strings_IndexByte ⟨#[100]⟩ (b.toNat : Int) u).mono ?_
  rintro e w' ⟨rfl, rfl⟩
  have e1 : ((b.toNat : Int).toNat).toUInt8 = b := by simp
  have e2 : Lib.indexByte [100] b = -1 := by
    have : ((100 : UInt8) == b) = false := by
      rw [beq_eq_false_iff_ne]
      rintro rfl
      simp at hb
    simp [Lib.indexByte, this]
  rw [e1]
  exact ⟨by rw [show Lib.indexByte (⟨#[100]⟩ : ByteArray).data.toList b = -1 from e2], rfl⟩

set_option maxHeartbeats 2000000 in
set_option maxRecDepth 100000 in
theorem IndexRune_high (r : Int) (h0 : 128 ≤ r) (h1 : r ≤ 2147483647) (w : World) :
    Calls Tryz.prog 240 #[.string ⟨([97, 99, 100] : List UInt8).toArray⟩, .int .i32 r] w fun e w' => e = .returned (.int .i64 (-1)) ∧ Below w.heap.size w w' := by
  by_cases h2 : r = 65533
  · subst h2
    have hn0 : ∀ ty, (Instr.next (.pointer (some ⟨w.heap.size, 0, none⟩)) true ty).run Tryz.prog (w.iter ⟨([97, 99, 100] : List UInt8).toArray⟩ 0) = .ok (.tuple #[.bool true, .int .i64 0, .int .i32 97]) (w.iter ⟨([97, 99, 100] : List UInt8).toArray⟩ 1) := fun ty => run_next_ascii w ⟨([97, 99, 100] : List UInt8).toArray⟩ 0 ty (by decide) (by decide)
    have hn1 : ∀ ty, (Instr.next (.pointer (some ⟨w.heap.size, 0, none⟩)) true ty).run Tryz.prog (w.iter ⟨([97, 99, 100] : List UInt8).toArray⟩ 1) = .ok (.tuple #[.bool true, .int .i64 1, .int .i32 99]) (w.iter ⟨([97, 99, 100] : List UInt8).toArray⟩ 2) := fun ty => run_next_ascii w ⟨([97, 99, 100] : List UInt8).toArray⟩ 1 ty (by decide) (by decide)
    have hn2 : ∀ ty, (Instr.next (.pointer (some ⟨w.heap.size, 0, none⟩)) true ty).run Tryz.prog (w.iter ⟨([97, 99, 100] : List UInt8).toArray⟩ 2) = .ok (.tuple #[.bool true, .int .i64 2, .int .i32 100]) (w.iter ⟨([97, 99, 100] : List UInt8).toArray⟩ 3) := fun ty => run_next_ascii w ⟨([97, 99, 100] : List UInt8).toArray⟩ 2 ty (by decide) (by decide)
    have hn3 : ∀ ty, (Instr.next (.pointer (some ⟨w.heap.size, 0, none⟩)) true ty).run Tryz.prog (w.iter ⟨([97, 99, 100] : List UInt8).toArray⟩ 3) = .ok (.tuple #[.bool false]) (w.iter ⟨([97, 99, 100] : List UInt8).toArray⟩ 3) := fun ty => run_next_end w ⟨([97, 99, 100] : List UInt8).toArray⟩ 3 ty (by decide)
    go_enter Tryz.func240, Tryz.ntmps240
    go_wp2
    refine wp_loop_rounds 4 ?_
    rw [rounds_succ]
    go_wp2
    rw [rounds_succ]
    go_wp2
    rw [rounds_succ]
    go_wp2
    rw [rounds_succ]
    go_wp2
    go_ret
    exact ⟨rfl, (Below.refl _ w).alloc (Nat.le_refl _) _⟩
  · have hb : (r == 65533) = false := by simp [h2]
    go_enter Tryz.func240, Tryz.ntmps240
    go_wp2_with fail
    refine (Tryz.utf8_ValidRune r _).mono ?_
    rintro e w' ⟨rfl, rfl⟩
    cases hv : Lib.validRune r
    · go_wp2
      go_ret
      exact ⟨rfl, Below.refl _ _⟩
    · rcases enc_form r (valid_of r hv) h0 with ⟨a, b, hb128, he⟩ | ⟨a, b, c, hb128, he⟩ | ⟨a, b, c, d, he⟩
      · have hbl := b.toNat_lt
        have hw2 : IntKind.i64.wrap 2 = 2 := by decide
        have hsl : ∀ u : World, (Instr.slice 9 (.string ⟨([97, 99, 100] : List UInt8).toArray⟩) (some (.int .i64 2)) none none).run Tryz.prog u = .ok (.string ⟨([100] : List UInt8).toArray⟩) u := fun u => by kernel_rfl
        have hne : ((99 : Int) != (b.toNat : Int)) = true := by simp; omega
        go_wp2_with fail
        go_step3
        go_wp2_with fail
        refine wp_loop_rounds 1 ?_
        rw [rounds_succ]
        go_wp2_with fail
        go_step3
        go_wp2_with fail
        go_quiet (fail)
        have hbq : Below w'.heap.size w' (w'.drewN nq) := Below.dN (Below.refl _ _) nq
        generalize w'.drewN nq = wq at *
        go_wp2_with fail
        go_quiet ((go_at_call 272; exact Calls.quiet_of_same (idx_d b hb128 _)))
        go_wp2
        rw [Exit.noGoto_ret]
        go_wp2
        rw [Exit.noGoto_ret]
        go_ret
        exact ⟨rfl, Below.dN hbq _⟩
      · have hbl := c.toNat_lt
        have hw2 : IntKind.i64.wrap 3 = 3 := by decide
        have hsl : ∀ u : World, (Instr.slice 9 (.string ⟨([97, 99, 100] : List UInt8).toArray⟩) (some (.int .i64 3)) none none).run Tryz.prog u = .ok (.string ⟨([] : List UInt8).toArray⟩) u := fun u => by kernel_rfl
        have hne : ((100 : Int) != (c.toNat : Int)) = true := by simp; omega
        go_wp2_with fail
        go_step3
        go_wp2_with fail
        refine wp_loop_rounds 1 ?_
        rw [rounds_succ]
        go_wp2_with fail
        go_step3
        go_wp2_with fail
        go_quiet (fail)
        have hbq : Below w'.heap.size w' (w'.drewN nq) := Below.dN (Below.refl _ _) nq
        generalize w'.drewN nq = wq at *
        go_wp2_with fail
        go_quiet ((go_at_call 272; exact Calls.quiet_of_same (idx_nil _ _)))
        go_wp2
        rw [Exit.noGoto_ret]
        go_wp2
        rw [Exit.noGoto_ret]
        go_ret
        exact ⟨rfl, Below.dN hbq _⟩
      · go_wp2_with fail
        go_step3
        go_wp2_with fail
        refine wp_loop_rounds 1 ?_
        rw [rounds_succ]
        go_wp2
        rw [Exit.noGoto_ret]
        go_ret
        exact ⟨rfl, Below.refl _ _⟩

theorem zero_set : ∀ w, (zeroValue 297).run Tryz.prog w = .ok (.agg (Array.replicate 256 (.bool false))) w :=
  (zero_of_info (P := Tryz.prog) (show (Tryz.prog.info? 297).map (fun i => (i.zero, i.size)) = some (some (.agg (Array.replicate 256 (.bool false))), 256) by kernel_rfl)).1

theorem idx_three (x : UInt8) : Lib.indexByte [97, 99, 100] x = if x.toNat = 97 then 0 else if x.toNat = 99 then 1 else if x.toNat = 100 then 2 else -1 := by
  have key : ∀ i : Fin 256, Lib.indexByte [97, 99, 100] (UInt8.ofNat i.val) = if i.val = 97 then 0 else if i.val = 99 then 1 else if i.val = 100 then 2 else -1 := by decide +kernel
  have := key ⟨x.toNat, x.toNat_lt⟩
  simpa using this
theorem isC_nat (x : UInt8) : isC x = decide (x.toNat = 97 ∨ x.toNat = 99 ∨ x.toNat = 100) := by
  rw [Bool.eq_iff_iff]
  simp [isC, ← UInt8.toNat_inj, or_assoc]

def idxB (x : UInt8) : Int := Lib.indexByte [97, 99, 100] x
theorem idxB_yes {x : UInt8} (h : isC x = true) : 0 ≤ idxB x := by
  rw [isC_nat] at h
  have h := of_decide_eq_true h
  unfold idxB; rw [idx_three]; split <;> (try split) <;> (try split) <;> omega
theorem idxB_no {x : UInt8} (h : isC x = false) : idxB x < 0 := by
  rw [isC_nat] at h
  have h := of_decide_eq_false h
  unfold idxB; rw [idx_three]; split <;> (try split) <;> (try split) <;> omega
theorem contains_three (c : UInt8) : ([97, 99, 100] : List UInt8).contains c = isC c := by
  rw [Bool.eq_iff_iff]
  simp [isC, or_assoc]
/-- where the first of the three letters is, or -1 -/
def wend (l : List UInt8) : Int := Lib.indexAny l [97, 99, 100]
theorem wend_at : ∀ (l : List UInt8) (k : Nat) (hk : k < l.length), (∀ j (h : j < l.length), j < k → isC l[j] = false) → isC l[k] = true → wend l = k
  | b :: l, 0, _, _, h => by
    unfold wend Lib.indexAny
    rw [contains_three, if_pos (by simpa using h)]
    rfl
  | b :: l, k + 1, hk, ha, h => by
    have h0 := ha 0 (by simp) (by omega)
    have ih := wend_at l k (by simpa using hk) (fun j hj hjk => ha (j + 1) (by simp; omega) (by omega)) (by simpa using h)
    unfold wend at ih ⊢
    unfold Lib.indexAny
    rw [contains_three, if_neg (by simpa using h0), ih]
    rw [if_neg (by simp)]
    omega

theorem wend_none : ∀ (l : List UInt8), (∀ j (h : j < l.length), isC l[j] = false) → wend l = -1
  | [], _ => rfl
  | b :: l, ha => by
    have h0 := ha 0 (by simp)
    have ih := wend_none l (fun j hj => ha (j + 1) (by simp; omega))
    unfold wend at ih ⊢
    unfold Lib.indexAny
    rw [contains_three, if_neg (by simpa using h0), ih]
    rfl

theorem IndexRune_low (x : UInt8) (h : x.toNat < 128) (w : World) :
    Calls Tryz.prog 240 #[.string ⟨([97, 99, 100] : List UInt8).toArray⟩, .int .i32 (x.toNat : Int)] w fun e w' => e = .returned (.int .i64 (idxB x)) ∧ w' = w := by
  have h1 := Tryz.strings_IndexRune_ascii ⟨([97, 99, 100] : List UInt8).toArray⟩ (x.toNat : Int) w (by omega) (by omega)
  refine h1.mono ?_
  rintro e w' ⟨rfl, rfl⟩
  have e : ((x.toNat : Int).toNat).toUInt8 = x := by simp
  rw [e]
  exact ⟨rfl, rfl⟩

set_option maxHeartbeats 2000000 in
theorem shouldUse_short (n : Int) (h : n ≤ 8) (w : World) : Calls Tryz.prog 241 #[.int .i64 n] w fun e w' => e = .returned (.bool false) ∧ w = w' := by
  go_enter Tryz.func241, Tryz.ntmps241
  go_wp2
  go_ret
  exact ⟨by simp; omega, rfl⟩

set_option maxHeartbeats 4000000 in
set_option maxRecDepth 100000 in
theorem IndexAny_short (l : List UInt8) (h8 : l.length ≤ 8) (w : World) :
    Calls Tryz.prog 198 #[.string ⟨l.toArray⟩, .string ⟨([97, 99, 100] : List UInt8).toArray⟩] w fun e w' => e = .returned (.int .i64 (wend l)) ∧ Below w.heap.size w w' := by
  go_enter Tryz.func198, Tryz.ntmps198
  go_wp2_with fail
  refine (shouldUse_short _ (by omega) _).mono ?_
  rintro e w' ⟨rfl, rfl⟩
  go_wp2
  go_loopw [] (fun wr => ∃ pos : Nat, pos ≤ l.length ∧ wr.heap[w.heap.size]? = some (.stringIter ⟨l.toArray⟩ pos) ∧ Below w.heap.size w wr ∧ (∀ k (hk : k < l.length), k < pos → isC l[k] = false)) (fun wr => l.length - wr.iterPos w.heap.size)
  case atStart => exact ⟨0, Nat.zero_le _, World.iter_heap w _ 0, (Below.refl _ w).alloc (Nat.le_refl _) _, fun k _ h => by omega⟩
  case round =>
    obtain ⟨pos, hp, hit, hbr, hall⟩ := hrel
    have HA : Hid (∀ k (hk : k < l.length), k < pos → isC l[k] = false) := hall
    clear hall
    have hwl : w.heap.size < wr.heap.size := (Array.getElem?_eq_some_iff.1 hit).1
    by_cases hlt : pos < l.length
    · by_cases ha : l[pos].toNat < 128
      · have hnx : ∀ ty, (Instr.next (.pointer (some ⟨w.heap.size, 0, none⟩)) true ty).run Tryz.prog wr = _ := fun ty => Lib.run_next_ascii_at wr w.heap.size ⟨l.toArray⟩ pos ty hit hlt ha
        have hit2 := Lib.iterAt_heap wr w.heap.size ⟨l.toArray⟩ pos (pos + 1) hit
        have hbr2 := Lib.below_iterAt hbr (k := w.heap.size) (Nat.le_refl _) ⟨l.toArray⟩ (pos + 1)
        go_wp2_with fail
        refine (IndexRune_low l[pos] ha _).mono ?_
        rintro e w4 ⟨rfl, rfl⟩
        cases hbl : isC l[pos]
        · have hneg := idxB_no hbl
          go_wp2
          go_roundw
          case rel =>
            refine ⟨pos + 1, by omega, hit2, hbr2, fun k hk h => ?_⟩
            by_cases e : k = pos
            · subst e; exact hbl
            · exact HA.out k hk (by omega)
          case measure => simp only [World.iterPos, hit, hit2]; omega
        · have hpos := idxB_yes hbl
          have HE : Hid ((pos : Int) = wend l) := (wend_at l pos hlt HA.out hbl).symm
          go_wp2
          go_ret
          exact ⟨ret_int1 HE.out, hbr2⟩
      · have hdh := (decode_high ⟨l.toArray⟩ pos hlt (by show 128 ≤ l[pos].toNat; omega))
        have hdr := decode_rest ⟨l.toArray⟩ pos hlt (by show 128 ≤ l[pos].toNat; omega)
        have hnx : ∀ ty, (Instr.next (.pointer (some ⟨w.heap.size, 0, none⟩)) true ty).run Tryz.prog wr = _ := fun ty => Lib.run_next_any_at wr w.heap.size ⟨l.toArray⟩ pos ty hit hlt
        have hit2 := Lib.iterAt_heap wr w.heap.size ⟨l.toArray⟩ pos (pos + (Utf8.decode ⟨l.toArray⟩ pos).2) hit
        have hbr2 := Lib.below_iterAt hbr (k := w.heap.size) (Nat.le_refl _) ⟨l.toArray⟩ (pos + (Utf8.decode ⟨l.toArray⟩ pos).2)
        have hdl := decode_le ⟨l.toArray⟩ pos
        have HR : Hid (∀ k, k < (Utf8.decode ⟨l.toArray⟩ pos).2 → ∃ h' : pos + k < l.length, 128 ≤ l[pos + k].toNat) := fun k hk => hdr k hk
        clear hdr
        obtain ⟨hd1, hd2⟩ := hdh
        generalize Utf8.decode ⟨l.toArray⟩ pos = dd at *
        have hwz : w.heap.size < (wr.iterAt w.heap.size ⟨l.toArray⟩ (pos + dd.2)).heap.size := by rw [Lib.iterAt_size]; exact hwl
        go_wp2_with fail
        refine (IndexRune_high (dd.1 : Int) (by omega) (by omega) _).mono ?_
        rintro e w4 ⟨rfl, hb4⟩
        have hit4 := (hb4.block w.heap.size hwz).trans hit2
        have hbr4 := hbr2.trans (hb4.mono (Nat.le_of_lt hwz))
        go_wp2
        go_roundw
        case rel =>
          refine ⟨pos + dd.2, ?_, hit4, hbr4, fun k hk h => ?_⟩
          · obtain ⟨h', _⟩ := HR.out (dd.2 - 1) (by omega)
            omega
          · by_cases e : k < pos
            · exact HA.out k hk e
            · obtain ⟨h', hh⟩ := HR.out (k - pos) (by omega)
              have ee : pos + (k - pos) = k := by omega
              simp only [ee] at hh
              exact (by rw [isC_nat]; exact decide_eq_false (by omega))
        case measure => simp only [World.iterPos, hit, hit4]; omega
    · have hnx : ∀ ty, (Instr.next (.pointer (some ⟨w.heap.size, 0, none⟩)) true ty).run Tryz.prog wr = _ := fun ty => Lib.run_next_end_at wr w.heap.size ⟨l.toArray⟩ pos ty hit hlt
      have HE : Hid (-1 = wend l) := (wend_none l (fun k hk => HA.out k hk (by omega))).symm
      go_wp2
      go_ret
      exact ⟨ret_int1 HE.out, hbr⟩

theorem IndexAny_any (l : List UInt8) (hl : l.length < 4294967281) (w : World) :
    Calls Tryz.prog 198 #[.string ⟨l.toArray⟩, .string ⟨([97, 99, 100] : List UInt8).toArray⟩] w fun e w' => e = .returned (.int .i64 (wend l)) ∧ Below w.heap.size w w' := by
  by_cases h8 : l.length ≤ 8
  · exact IndexAny_short l h8 w
  · have h := Tryz.strings_IndexAny_long zero_set ⟨l.toArray⟩ ⟨([97, 99, 100] : List UInt8).toArray⟩ w (by decide) (by show 8 < l.length; omega) hl (by decide) (fun j b h => by match j, h with | 0, h => simp at h; subst h; decide | 1, h => simp at h; subst h; decide | 2, h => simp at h; subst h; decide | j + 3, h => simp at h)
    refine h.mono ?_
    rintro e w' ⟨rfl, rfl⟩
    exact ⟨rfl, ((Below.refl _ w).alloc (Nat.le_refl _) _).alloc (by simp) _⟩

/-- where the first letter is, as the plain reader says -/
theorem wend_sp (l : List UInt8) : (spB isC l = none ∧ wend l = -1) ∨ (∃ k : Nat, ∃ h : k < l.length, wend l = k ∧ spB isC l = some (l.take k, l[k], l.drop (k + 1)) ∧ isC l[k] = true) := by
  induction l with
  | nil => exact .inl ⟨rfl, rfl⟩
  | cons c l ih =>
    unfold wend Lib.indexAny
    rw [contains_three]
    simp only [spB]
    cases hc : isC c with
    | true =>
      right
      refine ⟨0, by simp, by simp, by simp, by simpa using hc⟩
    | false =>
      rw [if_neg (by decide), if_neg (by decide)]
      rcases ih with ⟨h1, h2⟩ | ⟨k, hk, h1, h2, h3⟩
      · left
        unfold wend at h2
        rw [h1, h2]
        exact ⟨rfl, rfl⟩
      · right
        unfold wend at h1
        refine ⟨k + 1, by simpa using hk, ?_, ?_, by simpa using h3⟩
        · rw [h1, if_neg (by simp)]
          omega
        · rw [h2]
          rfl
/-- where a comma is -/
theorem comma_sp (l : List UInt8) : (spB isK l = none ∧ Lib.indexByte l 44 = -1) ∨ (∃ k : Nat, ∃ h : k < l.length, Lib.indexByte l 44 = k ∧ spB isK l = some (l.take k, l[k], l.drop (k + 1))) := by
  induction l with
  | nil => exact .inl ⟨rfl, rfl⟩
  | cons c l ih =>
    unfold Lib.indexByte
    simp only [spB]
    have e : (c == 44) = isK c := rfl
    rw [e]
    cases hc : isK c with
    | true =>
      right
      exact ⟨0, by simp, by simp, by simp⟩
    | false =>
      rw [if_neg (by decide), if_neg (by decide)]
      rcases ih with ⟨h1, h2⟩ | ⟨k, hk, h1, h2⟩
      · left
        rw [h1, h2]
        exact ⟨rfl, rfl⟩
      · right
        refine ⟨k + 1, by simpa using hk, ?_, ?_⟩
        · rw [h1, if_neg (by simp)]
          omega
        · rw [h2]
          rfl
end Go.Proofs.YtgiojkhmkeocfaaGreatDoor

/- The code's numbers and change of layer 12, walked: a range of lines, a line that says a change. -/
set_option maxRecDepth 20000
namespace Go.Proofs.YtgiojkhmkeocfaaGreatDoor
open Go.RowKit
attribute [local go_sem] ByteArray.extract_mk no_at

/-- what is ahead of the first comma, and behind it -/
def kA (l : List UInt8) : List UInt8 := match spB isK l with | none => l | some (x, _, _) => x
def kB (l : List UInt8) : List UInt8 := match spB isK l with | none => [] | some (_, _, y) => y
def kS (l : List UInt8) : Bool := match spB isK l with | none => false | some _ => true
set_option maxHeartbeats 2000000 in
theorem slCut_f (l : List UInt8) (w : World) (hl : l.length ≤ 1099511627776) :
    Calls Tryz.prog 274 #[.string ⟨l.toArray⟩, .string ⟨#[44]⟩] w fun e w' => e = .returned (.tuple #[.string ⟨(kA l).toArray⟩, .string ⟨(kB l).toArray⟩, .bool (kS l)]) ∧ ∃ n, w' = w.drewN n := by
  rcases comma_sp l with ⟨h1, h2⟩ | ⟨k, hk, h1, h2⟩
  · have HA : Hid (kA l = l ∧ kB l = [] ∧ kS l = false) := (by unfold kA kB kS; rw [h1]; exact ⟨rfl, rfl, rfl⟩)
    have HI : Hid (Lib.indexByte l 44 = -1) := h2
    clear h1 h2
    go_enter Tryz.func274, Tryz.ntmps274
    go_wp2_with fail
    refine (Tryz.stringslite_Index_one ⟨l.toArray⟩ 44 w).mono ?_
    rintro e w1 ⟨rfl, rfl⟩
    have e1 : Lib.indexByte (⟨l.toArray⟩ : ByteArray).data.toList 44 = -1 := HI.out
    rw [e1]
    clear e1
    go_wp2
    go_ret3
    obtain ⟨a1, a2, a3⟩ := HA.out
    rw [a1, a2, a3]
    exact ⟨rfl, 0, rfl⟩
  · have HA : Hid (kA l = l.take k ∧ kB l = l.drop (k + 1) ∧ kS l = true) := (by unfold kA kB kS; rw [h2]; exact ⟨rfl, rfl, rfl⟩)
    have HI : Hid (Lib.indexByte l 44 = (k : Int)) := h1
    clear h1 h2
    go_enter Tryz.func274, Tryz.ntmps274
    go_wp2_with fail
    refine (Tryz.stringslite_Index_one ⟨l.toArray⟩ 44 w).mono ?_
    rintro e w1 ⟨rfl, rfl⟩
    have e1 : Lib.indexByte (⟨l.toArray⟩ : ByteArray).data.toList 44 = (k : Int) := HI.out
    rw [e1]
    clear e1
    have i1 : (0 : Int) ≤ (k : Int) := by omega
    have i2 : (k : Int) ≤ (l.length : Int) := by omega
    have i3 : (k : Int) + 1 ≤ (l.length : Int) := by omega
    have i4 : (0 : Int) ≤ (k : Int) + 1 := by omega
    have i5 : IntKind.i64.wrap ((k : Int) + 1) = (k : Int) + 1 := wrap_s (by omega) (by omega)
    have i6 : ((k : Int) + 1).toNat = k + 1 := by omega
    go_wp2_with fail
    go_quiet (fail)
    go_wp2
    go_ret3
    obtain ⟨a1, a2, a3⟩ := HA.out
    rw [a1, a2, a3]
    have k5 : (l.drop (k + 1)).take (l.length - (k + 1)) = l.drop (k + 1) := List.take_of_length_le (by simp)
    exact ⟨by simp [k5], _, rfl⟩
set_option maxHeartbeats 1000000 in
theorem nCut_f (l : List UInt8) (w : World) (hl : l.length ≤ 1099511627776) :
    Calls Tryz.prog 244 #[.string ⟨l.toArray⟩, .string ⟨#[44]⟩] w fun e w' => e = .returned (.tuple #[.string ⟨(kA l).toArray⟩, .string ⟨(kB l).toArray⟩, .bool (kS l)]) ∧ ∃ n, w' = w.drewN n := by
  go_enter Tryz.func244, Tryz.ntmps244
  go_wp2_with fail
  refine (slCut_f l w hl).mono ?_
  rintro e w1 ⟨rfl, n, rfl⟩
  go_wp2
  go_ret3
  exact ⟨rfl, n, rfl⟩
/-- a text with a comma is no number -/
theorem comma_no {s : List UInt8} (h : kS s = true) : Pn.parseE s ≠ 0 := by
  unfold kS at h
  rcases comma_sp s with ⟨h1, _⟩ | ⟨k, hk, _, h2⟩
  · rw [h1] at h
    cases h
  · have hc : isK s[k] = true := (by
      have : ∀ (l : List UInt8) {a b : List UInt8} {c : UInt8}, spB isK l = some (a, c, b) → isK c = true := (by
        intro l
        induction l with
        | nil => intro a b c h; cases h
        | cons x l ih =>
          intro a b c h
          simp only [spB] at h
          split at h
          · rename_i hx
            cases h
            exact hx
          · split at h
            · cases h
            · rename_i hq
              cases h
              exact ih hq)
      exact this s h2)
    have hn : Pn.isNum s = false := Pn.isNum_bad k hk (by
      unfold isK at hc
      have : s[k] = 44 := by simpa using hc
      rw [this]
      decide)
    have := (Pn.parse_no hn).2
    omega
/-- a range, or the line ahead -/
def nmP (no : Bool) (s : List UInt8) : Option (Int × Int) := if no = true then oneP s else lnsP s
theorem kA_self {s : List UInt8} (h : kS s = false) : kA s = s ∧ spB isK s = none := by
  unfold kS at h
  unfold kA
  cases hq : spB isK s with
  | none => exact ⟨rfl, rfl⟩
  | some q => rw [hq] at h; cases h
theorem kS_some {s : List UInt8} (h : kS s = true) : ∃ c, spB isK s = some (kA s, c, kB s) := by
  unfold kS at h
  unfold kA kB
  cases hq : spB isK s with
  | none => rw [hq] at h; cases h
  | some q => exact ⟨q.2.1, rfl⟩
theorem nm_bad {no : Bool} {s : List UInt8} (h : Pn.parseE (kA s) ≠ 0) : nmP no s = none := by
  unfold nmP
  cases hk : kS s with
  | true =>
    obtain ⟨c, hc⟩ := kS_some hk
    have h2 := comma_no hk
    cases no with
    | true =>
      unfold oneP
      rw [if_pos rfl, if_neg h2]
    | false =>
      unfold lnsP
      rw [if_neg (by decide), hc]
      exact if_neg (fun q => h q.1)
  | false =>
    obtain ⟨h1, h2⟩ := kA_self hk
    rw [h1] at h
    cases no with
    | true =>
      unfold oneP
      rw [if_pos rfl, if_neg h]
    | false =>
      unfold lnsP
      rw [if_neg (by decide), h2]
      exact if_neg (fun q => h q.1)
theorem kA_le (s : List UInt8) : (kA s).length ≤ s.length ∧ (kB s).length ≤ s.length := by
  unfold kA kB
  rcases comma_sp s with ⟨h1, _⟩ | ⟨k, hk, _, h2⟩
  · rw [h1]; simp
  · rw [h2]; simp only [List.length_take, List.length_drop]; omega
/-- what numbers answers -/
def NmQ (w : World) (no : Bool) (s : List UInt8) (e : Ending) (w' : World) : Prop := ∃ x n r, e = .returned (.tuple #[.int .i64 x, .int .i64 n, .bool r]) ∧ nmP no s = (if r = true then some (x, n) else none) ∧ Below w.heap.size w w'
set_option maxHeartbeats 4000000 in
theorem nnumbers_f (s : List UInt8) (no : Bool) (w : World) (hl : s.length ≤ 1099511627776) :
    Calls Tryz.prog 199 #[.string ⟨s.toArray⟩, .bool no] w fun e w' => NmQ w no s e w' := by
  have hkl := kA_le s
  have b1 := @prs_num (kA s)
  have b2 := @prs_num (kB s)
  obtain ⟨V1, hV1⟩ : ∃ V, Pn.parseV (kA s) = V := ⟨_, rfl⟩
  obtain ⟨E1, hE1⟩ : ∃ V, Pn.parseE (kA s) = V := ⟨_, rfl⟩
  obtain ⟨V2, hV2⟩ : ∃ V, Pn.parseV (kB s) = V := ⟨_, rfl⟩
  obtain ⟨E2, hE2⟩ : ∃ V, Pn.parseE (kB s) = V := ⟨_, rfl⟩
  have P1 : ∀ u : World, Calls Tryz.prog 245 #[.string ⟨(kA s).toArray⟩] u fun e w' => e = .returned (.tuple #[.int .i64 V1, .int .i64 E1]) ∧ Below u.heap.size u w' := (by
    intro u
    have h := nParse_any (kA s) u (by unfold maxLen; omega)
    rw [hV1, hE1] at h
    exact h)
  have P2 : ∀ u : World, Calls Tryz.prog 245 #[.string ⟨(kB s).toArray⟩] u fun e w' => e = .returned (.tuple #[.int .i64 V2, .int .i64 E2]) ∧ Below u.heap.size u w' := (by
    intro u
    have h := nParse_any (kB s) u (by unfold maxLen; omega)
    rw [hV2, hE2] at h
    exact h)
  rw [hV1] at b1
  rw [hV2] at b2
  by_cases he1 : E1 = 0
  · have f1 : (E1 != 0) = false := by simp [he1]
    cases no with
    | true =>
      cases hk : kS s with
      | true =>
        have HN : Hid (nmP true s = none) := (by
          show _ = _
          unfold nmP oneP
          rw [if_pos rfl, if_neg (comma_no hk)])
        have C1 := nCut_f s w hl
        rw [hk] at C1
        clear hV1 hE1 hV2 hE2 hk he1 P2
        go_enter Tryz.func199, Tryz.ntmps199
        go_wp2_with fail
        refine C1.mono ?_
        rintro e w1 ⟨rfl, n, rfl⟩
        go_wp2_with fail
        refine (P1 _).mono ?_
        rintro e w2 ⟨rfl, hb2⟩
        go_wp2
        go_ret3
        exact ⟨_, _, _, rfl, HN.out, (Below.dN (Below.refl _ w) n).trans hb2⟩
      | false =>
        have HN : Hid (nmP true s = some (V1, 0)) := (by
          show _ = _
          obtain ⟨a1, _⟩ := kA_self hk
          rw [a1] at hV1 hE1
          unfold nmP oneP
          rw [if_pos rfl, if_pos (by rw [hE1]; exact he1), hV1])
        have C1 := nCut_f s w hl
        rw [hk] at C1
        clear hV1 hE1 hV2 hE2 hk he1 P2
        go_enter Tryz.func199, Tryz.ntmps199
        go_wp2_with fail
        refine C1.mono ?_
        rintro e w1 ⟨rfl, n, rfl⟩
        go_wp2_with fail
        refine (P1 _).mono ?_
        rintro e w2 ⟨rfl, hb2⟩
        go_wp2
        go_ret3
        exact ⟨_, _, _, rfl, HN.out, (Below.dN (Below.refl _ w) n).trans hb2⟩
    | false =>
      cases hk : kS s with
      | false =>
        have HN : Hid (nmP false s = if decide (0 < V1) = true then some (V1, 1) else none) := (by
          show _ = _
          obtain ⟨a1, a2⟩ := kA_self hk
          rw [a1] at hV1 hE1
          unfold nmP lnsP
          rw [if_neg (by decide), a2]
          dsimp only
          rw [hV1, hE1]
          by_cases h : 0 < V1
          · rw [if_pos ⟨he1, by omega⟩, if_pos (by simpa using h)]
          · rw [if_neg (by omega), if_neg (by simpa using h)])
        have C1 := nCut_f s w hl
        rw [hk] at C1
        clear hV1 hE1 hV2 hE2 hk he1 P2
        go_enter Tryz.func199, Tryz.ntmps199
        go_wp2_with fail
        refine C1.mono ?_
        rintro e w1 ⟨rfl, n, rfl⟩
        go_wp2_with fail
        refine (P1 _).mono ?_
        rintro e w2 ⟨rfl, hb2⟩
        go_wp2
        go_ret3
        exact ⟨_, _, _, rfl, HN.out, (Below.dN (Below.refl _ w) n).trans hb2⟩
      | true =>
        have HN : Hid (nmP false s = if (decide (E2 = 0) && decide (0 < V1) && decide (V1 < V2)) = true then some (V1, V2 - V1 + 1) else none) := (by
          show _ = _
          obtain ⟨c, a2⟩ := kS_some hk
          unfold nmP lnsP
          rw [if_neg (by decide), a2]
          dsimp only
          rw [hV1, hE1, hV2, hE2]
          by_cases h : E2 = 0 ∧ 0 < V1 ∧ V1 < V2
          · rw [if_pos ⟨he1, h.1, by omega, h.2.2⟩, if_pos (by simp [h.1, h.2.1, h.2.2])]
          · rw [if_neg (fun q => h ⟨q.2.1, by omega, q.2.2.2⟩), if_neg (fun q => h (by simp only [Bool.and_eq_true, decide_eq_true_eq] at q; exact ⟨q.1.1, q.1.2, q.2⟩))])
        have C1 := nCut_f s w hl
        rw [hk] at C1
        clear hV1 hE1 hV2 hE2 hk he1
        go_enter Tryz.func199, Tryz.ntmps199
        go_wp2_with fail
        refine C1.mono ?_
        rintro e w1 ⟨rfl, n, rfl⟩
        go_wp2_with fail
        refine (P1 _).mono ?_
        rintro e w2 ⟨rfl, hb2⟩
        go_wp2_with fail
        refine (P2 _).mono ?_
        rintro e w3 ⟨rfl, hb3⟩
        have hb23 := (Below.dN (Below.refl _ w) n).trans (hb2.trans (hb3.mono hb2.size))
        have i1 : IntKind.i64.wrap (V2 - V1) = V2 - V1 := wrap_s (by omega) (by omega)
        have i2 : IntKind.i64.wrap (V2 - V1 + 1) = V2 - V1 + 1 := wrap_s (by omega) (by omega)
        by_cases h1 : E2 = 0
        · have g1 : (E2 == 0) = true := by simp [h1]
          by_cases h2 : 0 < V1
          · have HN2 : Hid (nmP false s = if decide (V1 < V2) = true then some (V1, V2 - V1 + 1) else none) := (by
              show _ = _
              rw [HN.out]
              simp [h1, h2])
            clear HN h1
            go_wp2
            go_ret3
            exact ⟨_, _, _, rfl, HN2.out, hb23⟩
          · have HN2 : Hid (nmP false s = none) := (by have h := HN.out; rw [if_neg (by simp [h2])] at h; exact h)
            clear HN h1
            go_wp2
            go_ret3
            exact ⟨_, _, _, rfl, HN2.out, hb23⟩
        · have g1 : (E2 == 0) = false := by simp [h1]
          have HN2 : Hid (nmP false s = none) := (by have h := HN.out; rw [if_neg (by simp [h1])] at h; exact h)
          clear HN h1
          go_wp2
          go_ret3
          exact ⟨_, _, _, rfl, HN2.out, hb23⟩
  · have f1 : (E1 != 0) = true := by simp [he1]
    have HN : Hid (nmP no s = none) := nm_bad (by rw [hE1]; exact he1)
    have C1 := nCut_f s w hl
    clear hV1 hE1 hV2 hE2 he1 P2
    generalize kS s = ks at C1
    go_enter Tryz.func199, Tryz.ntmps199
    go_wp2_with fail
    refine C1.mono ?_
    rintro e w1 ⟨rfl, n, rfl⟩
    go_wp2_with fail
    refine (P1 _).mono ?_
    rintro e w2 ⟨rfl, hb2⟩
    go_wp2
    go_ret3
    exact ⟨_, _, _, rfl, HN.out, (Below.dN (Below.refl _ w) n).trans hb2⟩
end Go.Proofs.YtgiojkhmkeocfaaGreatDoor

/- The reference's range of lines, walked. -/
set_option maxRecDepth 20000
namespace Go.Proofs.YtgiojkhmkeocfaaGreatDoor
open Go.RowKit
attribute [local go_sem] ByteArray.extract_mk no_at

theorem spB_at {q : UInt8 → Bool} : ∀ (s : List UInt8) (i : Nat) (hi : i < s.length), q s[i] = true → (∀ j (hj : j < i), q (s[j]'(by omega)) = false) → spB q s = some (s.take i, s[i], s.drop (i + 1))
  | [], _, hi, _, _ => by simp at hi
  | c :: t, 0, _, hq, _ => by
    simp only [List.getElem_cons_zero] at hq
    simp [spB, hq]
  | c :: t, i + 1, hi, hq, h => by
    have h0 := h 0 (by omega)
    simp only [List.getElem_cons_zero] at h0
    have ih := spB_at t i (by simpa using hi) (by simpa using hq) (fun j hj => by have := h (j + 1) (by omega); simpa using this)
    simp [spB, h0, ih]
theorem spB_off {q : UInt8 → Bool} : ∀ (s : List UInt8), (∀ j (hj : j < s.length), q s[j] = false) → spB q s = none
  | [], _ => rfl
  | c :: t, h => by
    have h0 := h 0 (by simp)
    simp only [List.getElem_cons_zero] at h0
    have ih := spB_off t (fun j hj => by have := h (j + 1) (by simp; omega); simpa using this)
    simp [spB, h0, ih]
/-- what a range of lines is read as -/
def LnsP (s : List UInt8) (x : Ending) : Prop :=
  match lnsP s with
  | some (A, N) => x = .returned (.tuple #[.int .i64 A, .int .i64 N, .bool true])
  | none => ∃ A N, x = .returned (.tuple #[.int .i64 A, .int .i64 N, .bool false])
end Go.Proofs.YtgiojkhmkeocfaaGreatDoor

/- The reference's line that says a change, walked. -/
set_option maxRecDepth 20000
namespace Go.Proofs.YtgiojkhmkeocfaaGreatDoor
open Go.RowKit
attribute [local go_sem] ByteArray.extract_mk no_at

theorem LnsP.out {s : List UInt8} {x : Ending} (h : LnsP s x) : ∃ A N b, x = .returned (.tuple #[.int .i64 A, .int .i64 N, .bool b]) ∧ lnsP s = if b = true then some (A, N) else none := by
  unfold LnsP at h
  cases hl : lnsP s with
  | none =>
    rw [hl] at h
    obtain ⟨A, N, rfl⟩ := h
    exact ⟨A, N, false, rfl, rfl⟩
  | some z =>
    obtain ⟨A, N⟩ := z
    rw [hl] at h
    exact ⟨A, N, true, h, rfl⟩
/-- what a line that says a change is read as -/
def CmdP (s : List UInt8) (x : Ending) : Prop :=
  match cmdP s with
  | some (A, AN, B, BN) => x = .returned (.tuple #[hkV ⟨A, AN, B, BN, []⟩ (.slice none 0 0), .bool true])
  | none => ∃ A AN B BN, x = .returned (.tuple #[hkV ⟨A, AN, B, BN, []⟩ (.slice none 0 0), .bool false])
theorem CmdP.off {s : List UInt8} (h : ∀ j (hj : j < s.length), isC s[j] = false) : CmdP s (.returned (.tuple #[hkV ⟨0, 0, 0, 0, []⟩ (.slice none 0 0), .bool false])) := by
  unfold CmdP cmdP
  rw [spB_off s h]
  exact ⟨0, 0, 0, 0, rfl⟩
section
variable {u : World} {b : Nat} {h : Hk} {v : Value}
theorem Hx.putH5 (q : Hx u b h v) (A AN B BN : Int) (l : List Mk) (z : Value) : Hx (((((u.setCell ⟨b, 0, none⟩ (.int .i64 A)).setCell ⟨b, 1, none⟩ (.int .i64 AN)).setCell ⟨b, 2, none⟩ (.int .i64 B)).setCell ⟨b, 3, none⟩ (.int .i64 BN)).setCell ⟨b, 4, none⟩ z) b ⟨A, AN, B, BN, l⟩ z := by
  have s1 := heap_setCell_same u b 0 _ _ (.int .i64 A) q
  have s2 := heap_setCell_same _ b 1 _ _ (.int .i64 AN) s1
  have s3 := heap_setCell_same _ b 2 _ _ (.int .i64 B) s2
  have s4 := heap_setCell_same _ b 3 _ _ (.int .i64 BN) s3
  exact heap_setCell_same _ b 4 _ _ z s4
theorem Hx.off (q : Hx u b h v) {c j : Nat} (hc : b ≠ c) (z : Value) : Hx (u.setCell ⟨c, j, none⟩ z) b h v := (Below.heap_setCell _ _ _ b hc).trans q
end
theorem cm_low {w u : World} (h : Below w.heap.size w u) (z0 z1 z2 z3 z4 : Value) : Below w.heap.size w (((((u.setCell ⟨w.heap.size, 0, none⟩ z0).setCell ⟨w.heap.size, 1, none⟩ z1).setCell ⟨w.heap.size, 2, none⟩ z2).setCell ⟨w.heap.size, 3, none⟩ z3).setCell ⟨w.heap.size, 4, none⟩ z4) :=
  ((((h.setCell (Nat.le_refl _) _).setCell (Nat.le_refl _) _).setCell (Nat.le_refl _) _).setCell (Nat.le_refl _) _).setCell (Nat.le_refl _) _
theorem CmdP.mk {s : List UInt8} {k : Nat} {c : UInt8} (hk : k < s.length) (hc : s[k] = c) (h1 : isC c = true) (h2 : ∀ j (hj : j < k), isC (s[j]'(by omega)) = false) {x y : List UInt8} (hx : s.take k = x) (hy : s.drop (k + 1) = y)
    {A AN B BN : Int} {b1 b2 b : Bool} (hA : (if c = 97 then oneP x else lnsP x) = if b1 = true then some (A, AN) else none) (hB : (if c = 100 then oneP y else lnsP y) = if b2 = true then some (B, BN) else none) (hb : (b1 && b2) = b) :
    CmdP s (.returned (.tuple #[hkV ⟨A, AN, B, BN, []⟩ (.slice none 0 0), .bool b])) := by
  unfold CmdP cmdP
  rw [spB_at s k hk (by rw [hc]; exact h1) h2]
  dsimp only
  rw [hx, hy, hc, hA, hB]
  cases b1 <;> cases b2 <;> cases hb
  · exact ⟨_, _, _, _, rfl⟩
  · exact ⟨_, _, _, _, rfl⟩
  · exact ⟨_, _, _, _, rfl⟩
  · rfl
end Go.Proofs.YtgiojkhmkeocfaaGreatDoor

/- The code's change of layer 12, walked: a line that says a change. -/
set_option maxRecDepth 20000
namespace Go.Proofs.YtgiojkhmkeocfaaGreatDoor
open Go.RowKit
attribute [local go_sem] ByteArray.extract_mk no_at

theorem low_drw {W u : World} (h : Low W u) : Low W u.drew := Below.drew h
theorem exec_slTo {u : World} {s x : List UInt8} {k : Nat} (hk : k ≤ s.length) (hx : s.take k = x) {op : Oper} (p q : Operand) (ho : op.op = .slice 9 p none (some q) none) {ev : Operand → Value} (h1 : ev p = .string ⟨s.toArray⟩) (h2 : ev q = .int .i64 (k : Int)) :
    (execOp ev op).run Tryz.prog u = .ok (.value (.string ⟨x.toArray⟩)) u := by
  have i1 : (0 : Int) ≤ (k : Int) := by omega
  have i2 : (k : Int) ≤ (s.length : Int) := by omega
  subst hx
  simp only [execOp, ho, h1, h2, Option.map]
  go_simp
theorem exec_slFrom {u : World} {s y : List UInt8} {k : Nat} (hk : k < s.length) (hy : s.drop (k + 1) = y) {op : Oper} (p q : Operand) (ho : op.op = .slice 9 p (some q) none none) {ev : Operand → Value} (h1 : ev p = .string ⟨s.toArray⟩) (h2 : ev q = .int .i64 ((k : Int) + 1)) :
    (execOp ev op).run Tryz.prog u = .ok (.value (.string ⟨y.toArray⟩)) u := by
  have i1 : (0 : Int) ≤ (k : Int) + 1 := by omega
  have i2 : (k : Int) + 1 ≤ (s.length : Int) := by omega
  have i3 : ((k : Int) + 1).toNat = k + 1 := by omega
  subst hy
  have k5 : (s.drop (k + 1)).take (s.length - (k + 1)) = s.drop (k + 1) := List.take_of_length_le (by simp)
  simp only [execOp, ho, h1, h2, Option.map]
  go_simp
theorem exec_ixS {u : World} {s : List UInt8} {k : Nat} {c : UInt8} (hk : k < s.length) (hc : s[k] = c) {op : Oper} (p q : Operand) (ho : op.op = .index 9 p q) {ev : Operand → Value} (h1 : ev p = .string ⟨s.toArray⟩) (h2 : ev q = .int .i64 (k : Int)) :
    (execOp ev op).run Tryz.prog u = .ok (.value (.int .u8 (c.toNat : Int))) u := by
  have i1 : (0 : Int) ≤ (k : Int) := by omega
  have i2 : (k : Int) < (s.length : Int) := by omega
  subst hc
  simp only [execOp, ho, h1, h2]
  go_simp
theorem u8_eq (c d : UInt8) : ((c.toNat : Int) == (d.toNat : Int)) = (c == d) := by
  rw [Bool.eq_iff_iff, beq_iff_eq, beq_iff_eq, ← UInt8.toNat_inj]
  omega
theorem exec_eq8 {u : World} {a b : Int} {r : Bool} {op : Oper} (p q : Operand) (ho : op.op = .binOp .eql 5 p q 5) {ev : Operand → Value} (h1 : ev p = .int .u8 a) (h2 : ev q = .int .u8 b) (hr : (a == b) = r) :
    (execOp ev op).run Tryz.prog u = .ok (.value (.bool r)) u := by
  simp only [execOp, ho, h1, h2]
  go_simp
theorem exec_addI {u : World} {p q : Int} (h : IntKind.i64.wrap (p + q) = p + q) {op : Oper} (x y : Operand) (ho : op.op = .binOp .add 3 x y 3) {ev : Operand → Value} (hx : ev x = .int .i64 p) (hy : ev y = .int .i64 q) :
    (execOp ev op).run Tryz.prog u = .ok (.value (.int .i64 (p + q))) u := by
  simp only [execOp, ho, hx, hy]
  go_simp
theorem num_held {W u : World} {s : List UInt8} {no : Bool} (hL : Low W u) (hl : s.length ≤ 1099511627776) : Calls Tryz.prog 199 (#[.string ⟨s.toArray⟩, .bool no] ++ #[]) u fun e w' => ∃ v, e = .returned v ∧ Low W w' ∧ ∃ A AN b1, v = .tuple #[.int .i64 A, .int .i64 AN, .bool b1] ∧ nmP no s = (if b1 = true then some (A, AN) else none) := by
  refine (nnumbers_f s no u hl).mono ?_
  rintro e w' ⟨x, n, r, rfl, h1, h2⟩
  exact ⟨_, rfl, Below.trans hL (h2.mono (Below.size hL)), x, n, r, rfl, h1⟩
theorem nm_ret (tmps : Array Value) (u : World) (B : Nat) (g : Hk) (v : Value) (h : Hx u B g v) {b : Value} (h2 : tmps.getD 2 undef = .pointer (some ⟨B, 0, none⟩)) (h3 : tmps.getD 3 undef = b) :
    (results Tryz.f136 tmps).run Tryz.prog u = .ok (.tuple #[hkV g v, b]) u := by
  rw [_root_.Go.results_cell_tmp rfl, h2, h3]
  have hL : (loadVar 59 ⟨B, 0, none⟩).run Tryz.prog u = .ok (hkV g v) u := run_loadVar_row u B _ _ _ _ _ h Tryz.underlying59 rfl (by kernel_rfl)
  simp [asAddr, hL, Result.andThen]
set_option maxHeartbeats 4000000 in
theorem nchange_f (s : List UInt8) (hs : s.length < 4294967281) (w : World) :
    Calls Tryz.prog 136 #[.string ⟨s.toArray⟩] w fun x w' => CmdP s x ∧ Below w.heap.size w w' := by
  have hx0 := Hx.new w ⟨0, 0, 0, 0, []⟩ (.slice none 0 0)
  have hB0 : Below w.heap.size w (w.alloc (hkO ⟨0, 0, 0, 0, []⟩ (.slice none 0 0))) := (Below.refl _ w).alloc (Nat.le_refl _) _
  unfold hkO at hx0 hB0
  dsimp only at hx0 hB0
  have hIx := fun u => IndexAny_any s hs u
  rcases wend_sp s with ⟨h1, h2⟩ | ⟨k, hlt, h1, h2, h3⟩
  · have HC : Hid (∀ A AN B BN, CmdP s (.returned (.tuple #[hkV ⟨A, AN, B, BN, []⟩ (.slice none 0 0), .bool false]))) := (by
      intro A AN B BN
      unfold CmdP cmdP
      rw [h1]
      exact ⟨_, _, _, _, rfl⟩)
    rw [h2] at hIx
    clear h1 h2
    go_enter Tryz.func136, Tryz.ntmps136
    go_wp2_with fail
    generalize w.alloc (.cells #[.int .i64 0, .int .i64 0, .int .i64 0, .int .i64 0, .slice none 0 0] 59) = W at hx0 hB0 ⊢
    refine (hIx _).mono ?_
    rintro e w1 ⟨rfl, hb1⟩
    have hx1 := hx0.low hb1
    have hB1 := hB0.trans (hb1.mono hB0.size)
    obtain ⟨c0, c1, c2, c3, c4⟩ := hx1.cells
    have f0 := hx1.frozen 0
    have f1 := hx1.frozen 1
    have f2 := hx1.frozen 2
    have f3 := hx1.frozen 3
    have f4 := hx1.frozen 4
    have hP := hx1.putH5 0 0 0 0 [] (.slice none 0 0)
    have hBP := cm_low hB1 (.int .i64 0) (.int .i64 0) (.int .i64 0) (.int .i64 0) (.slice none 0 0)
    go_wp2
    refine bodyPost_ret (nm_ret _ _ _ _ _ hP rfl rfl) rfl ⟨HC.out _ _ _ _, hBP⟩
  · obtain ⟨c, hcd⟩ : ∃ c, s[k] = c := ⟨_, rfl⟩
    obtain ⟨x, hx⟩ : ∃ x, s.take k = x := ⟨_, rfl⟩
    obtain ⟨y, hy⟩ : ∃ y, s.drop (k + 1) = y := ⟨_, rfl⟩
    have hxl : x.length ≤ 1099511627776 := (by rw [← hx, List.length_take]; omega)
    have hyl : y.length ≤ 1099511627776 := (by rw [← hy, List.length_drop]; omega)
    have hkl : k ≤ s.length := by omega
    have HC : Hid (∀ A AN B BN b1 b2, nmP (c == 97) x = (if b1 = true then some (A, AN) else none) → nmP (c == 100) y = (if b2 = true then some (B, BN) else none) → CmdP s (.returned (.tuple #[hkV ⟨A, AN, B, BN, []⟩ (.slice none 0 0), .bool (b1 && b2)]))) := (by
      intro A AN B BN b1 b2 hA hB
      unfold CmdP cmdP
      rw [h2, hcd, hx, hy]
      dsimp only
      have e1 : (if c = 97 then oneP x else lnsP x) = nmP (c == 97) x := (by
        unfold nmP
        by_cases h : c = 97 <;> simp [h])
      have e2 : (if c = 100 then oneP y else lnsP y) = nmP (c == 100) y := (by
        unfold nmP
        by_cases h : c = 100 <;> simp [h])
      rw [e1, e2, hA, hB]
      cases b1 <;> cases b2
      · exact ⟨_, _, _, _, rfl⟩
      · exact ⟨_, _, _, _, rfl⟩
      · exact ⟨_, _, _, _, rfl⟩
      · rfl)
    rw [h1] at hIx
    clear h1 h2 h3
    go_enter Tryz.func136, Tryz.ntmps136
    go_wp2_with fail
    generalize w.alloc (.cells #[.int .i64 0, .int .i64 0, .int .i64 0, .int .i64 0, .slice none 0 0] 59) = W0 at hx0 hB0 ⊢
    refine (hIx _).mono ?_
    rintro e W ⟨rfl, hb1⟩
    have hx1 := hx0.low hb1
    have hB1 := hB0.trans (hb1.mono hB0.size)
    clear hx0 hB0 hb1
    have hlow : Low W W.drew := Below.drew (Below.refl _ _)
    have i0 : ¬ ((k : Int) < 0) := by omega
    go_upto_region 4 with fail
    refine wp_region_noPanic ?_
    refine wp_region_held_drew (S := fun u => Low W u) (by kernel_rfl) hlow (fun hHeld => ?_)
    generalize W.drew = wd at hHeld ⊢
    refine go_take 0 17 _ (.string ⟨s.toArray⟩) rfl (by kernel_rfl) (by kernel_rfl) (by kernel_rfl) (by kernel_rfl) (fun _ _ _ h => h) (Or.inl ⟨by kernel_rfl, fun u hu => by kernel_rfl⟩) hHeld ?_
    simp only [Act.put, List.setIfInBounds_toArray, List.set_cons_zero, List.set_cons_succ]
    refine go_take 1 18 _ (.int .i64 (k : Int)) rfl (by kernel_rfl) (by kernel_rfl) (by kernel_rfl) (by kernel_rfl) (fun _ _ _ h => h) (Or.inl ⟨by kernel_rfl, fun u hu => by kernel_rfl⟩) hHeld ?_
    simp only [Act.put, List.setIfInBounds_toArray, List.set_cons_zero, List.set_cons_succ]
    refine go_take 2 19 _ (.string ⟨x.toArray⟩) rfl (by kernel_rfl) (by kernel_rfl) (by kernel_rfl) (by kernel_rfl) (fun _ _ _ h => h) (Or.inl ⟨by kernel_rfl, fun u hu => exec_slTo hkl hx (.tmp 17) (.tmp 18) (by kernel_rfl) (by kernel_rfl) (by kernel_rfl)⟩) hHeld ?_
    simp only [Act.put, List.setIfInBounds_toArray, List.set_cons_zero, List.set_cons_succ]
    refine go_take 3 20 _ (.string ⟨s.toArray⟩) rfl (by kernel_rfl) (by kernel_rfl) (by kernel_rfl) (by kernel_rfl) (fun _ _ _ h => h) (Or.inl ⟨by kernel_rfl, fun u hu => by kernel_rfl⟩) hHeld ?_
    simp only [Act.put, List.setIfInBounds_toArray, List.set_cons_zero, List.set_cons_succ]
    refine go_take 4 21 _ (.int .i64 (k : Int)) rfl (by kernel_rfl) (by kernel_rfl) (by kernel_rfl) (by kernel_rfl) (fun _ _ _ h => h) (Or.inl ⟨by kernel_rfl, fun u hu => by kernel_rfl⟩) hHeld ?_
    simp only [Act.put, List.setIfInBounds_toArray, List.set_cons_zero, List.set_cons_succ]
    refine go_take 5 22 _ (.int .u8 (c.toNat : Int)) rfl (by kernel_rfl) (by kernel_rfl) (by kernel_rfl) (by kernel_rfl) (fun _ _ _ h => h) (Or.inl ⟨by kernel_rfl, fun u hu => exec_ixS hlt hcd (.tmp 20) (.tmp 21) (by kernel_rfl) (by kernel_rfl) (by kernel_rfl)⟩) hHeld ?_
    simp only [Act.put, List.setIfInBounds_toArray, List.set_cons_zero, List.set_cons_succ]
    refine go_take 6 23 _ (.bool (c == 97)) rfl (by kernel_rfl) (by kernel_rfl) (by kernel_rfl) (by kernel_rfl) (fun _ _ _ h => h) (Or.inl ⟨by kernel_rfl, fun u hu => exec_eq8 (.tmp 22) (.const (.int .u8 97)) (by kernel_rfl) (by kernel_rfl) (by kernel_rfl) (u8_eq c 97)⟩) hHeld ?_
    simp only [Act.put, List.setIfInBounds_toArray, List.set_cons_zero, List.set_cons_succ]
    refine go_callE 7 24 _ rfl (by kernel_rfl) (by kernel_rfl) (by kernel_rfl) 199 (.func 199) #[.tmp 19, .tmp 23] #[9, 4] (by kernel_rfl) #[] (by kernel_rfl) #[.string ⟨x.toArray⟩, .bool (c == 97)] (by kernel_rfl) (enters_of Tryz.func199 (by kernel_rfl) rfl) (fun v u => ∃ A AN b1, v = .tuple #[.int .i64 A, .int .i64 AN, .bool b1] ∧ nmP (c == 97) x = (if b1 = true then some (A, AN) else none)) ?_ ?_
    · exact num_held hHeld hxl
    rintro _ u1 hH1 ⟨A, AN, b1, rfl, hA⟩
    simp only [Act.put, List.setIfInBounds_toArray, List.set_cons_zero, List.set_cons_succ]
    refine go_take 8 16 _ (.tuple #[.int .i64 A, .int .i64 AN, .bool b1]) rfl (by kernel_rfl) (by kernel_rfl) (by kernel_rfl) (by kernel_rfl) (fun _ _ _ h => h) (Or.inl ⟨by kernel_rfl, fun u hu => by kernel_rfl⟩) hH1 ?_
    simp only [Act.put, List.setIfInBounds_toArray, List.set_cons_zero, List.set_cons_succ]
    refine go_take 9 25 _ (.int .i64 A) rfl (by kernel_rfl) (by kernel_rfl) (by kernel_rfl) (by kernel_rfl) (fun _ _ _ h => h) (Or.inl ⟨by kernel_rfl, fun u hu => by kernel_rfl⟩) hH1 ?_
    simp only [Act.put, List.setIfInBounds_toArray, List.set_cons_zero, List.set_cons_succ]
    refine go_take 10 26 _ (.int .i64 AN) rfl (by kernel_rfl) (by kernel_rfl) (by kernel_rfl) (by kernel_rfl) (fun _ _ _ h => h) (Or.inl ⟨by kernel_rfl, fun u hu => by kernel_rfl⟩) hH1 ?_
    simp only [Act.put, List.setIfInBounds_toArray, List.set_cons_zero, List.set_cons_succ]
    refine go_take 11 27 _ (.bool b1) rfl (by kernel_rfl) (by kernel_rfl) (by kernel_rfl) (by kernel_rfl) (fun _ _ _ h => h) (Or.inl ⟨by kernel_rfl, fun u hu => by kernel_rfl⟩) hH1 ?_
    simp only [Act.put, List.setIfInBounds_toArray, List.set_cons_zero, List.set_cons_succ]
    refine go_take 12 5 _ (.int .i64 A) rfl (by kernel_rfl) (by kernel_rfl) (by kernel_rfl) (by kernel_rfl) (fun _ _ _ h => h) (Or.inl ⟨by kernel_rfl, fun u hu => by kernel_rfl⟩) hH1 ?_
    simp only [Act.put, List.setIfInBounds_toArray, List.set_cons_zero, List.set_cons_succ]
    refine go_take 13 6 _ (.int .i64 AN) rfl (by kernel_rfl) (by kernel_rfl) (by kernel_rfl) (by kernel_rfl) (fun _ _ _ h => h) (Or.inl ⟨by kernel_rfl, fun u hu => by kernel_rfl⟩) hH1 ?_
    simp only [Act.put, List.setIfInBounds_toArray, List.set_cons_zero, List.set_cons_succ]
    refine go_take 14 7 _ (.bool b1) rfl (by kernel_rfl) (by kernel_rfl) (by kernel_rfl) (by kernel_rfl) (fun _ _ _ h => h) (Or.inl ⟨by kernel_rfl, fun u hu => by kernel_rfl⟩) hH1 ?_
    simp only [Act.put, List.setIfInBounds_toArray, List.set_cons_zero, List.set_cons_succ]
    refine wpAnyH_done (by kernel_rfl) ?_ _
    refine NoPanic.normal ?_
    go_upto_region 5 with fail
    refine wp_region_noPanic ?_
    refine wp_region_held_drew (S := fun u => Low W u) (by kernel_rfl) (low_drw hH1) (fun hHeld => ?_)
    generalize u1.drew = wd2 at hHeld ⊢
    refine go_take 0 29 _ (.string ⟨s.toArray⟩) rfl (by kernel_rfl) (by kernel_rfl) (by kernel_rfl) (by kernel_rfl) (fun _ _ _ h => h) (Or.inl ⟨by kernel_rfl, fun u hu => by kernel_rfl⟩) hHeld ?_
    simp only [Act.put, List.setIfInBounds_toArray, List.set_cons_zero, List.set_cons_succ]
    refine go_take 1 30 _ (.int .i64 (k : Int)) rfl (by kernel_rfl) (by kernel_rfl) (by kernel_rfl) (by kernel_rfl) (fun _ _ _ h => h) (Or.inl ⟨by kernel_rfl, fun u hu => by kernel_rfl⟩) hHeld ?_
    simp only [Act.put, List.setIfInBounds_toArray, List.set_cons_zero, List.set_cons_succ]
    refine go_take 2 31 _ (.int .i64 ((k : Int) + 1)) rfl (by kernel_rfl) (by kernel_rfl) (by kernel_rfl) (by kernel_rfl) (fun _ _ _ h => h) (Or.inl ⟨by kernel_rfl, fun u hu => exec_addI (p := (k : Int)) (q := 1) (wrap_s (by omega) (by omega)) (.tmp 30) (.const (.int .i64 1)) (by kernel_rfl) (by kernel_rfl) (by kernel_rfl)⟩) hHeld ?_
    simp only [Act.put, List.setIfInBounds_toArray, List.set_cons_zero, List.set_cons_succ]
    refine go_take 3 32 _ (.string ⟨y.toArray⟩) rfl (by kernel_rfl) (by kernel_rfl) (by kernel_rfl) (by kernel_rfl) (fun _ _ _ h => h) (Or.inl ⟨by kernel_rfl, fun u hu => exec_slFrom hlt hy (.tmp 29) (.tmp 31) (by kernel_rfl) (by kernel_rfl) (by kernel_rfl)⟩) hHeld ?_
    simp only [Act.put, List.setIfInBounds_toArray, List.set_cons_zero, List.set_cons_succ]
    refine go_take 4 33 _ (.string ⟨s.toArray⟩) rfl (by kernel_rfl) (by kernel_rfl) (by kernel_rfl) (by kernel_rfl) (fun _ _ _ h => h) (Or.inl ⟨by kernel_rfl, fun u hu => by kernel_rfl⟩) hHeld ?_
    simp only [Act.put, List.setIfInBounds_toArray, List.set_cons_zero, List.set_cons_succ]
    refine go_take 5 34 _ (.int .i64 (k : Int)) rfl (by kernel_rfl) (by kernel_rfl) (by kernel_rfl) (by kernel_rfl) (fun _ _ _ h => h) (Or.inl ⟨by kernel_rfl, fun u hu => by kernel_rfl⟩) hHeld ?_
    simp only [Act.put, List.setIfInBounds_toArray, List.set_cons_zero, List.set_cons_succ]
    refine go_take 6 35 _ (.int .u8 (c.toNat : Int)) rfl (by kernel_rfl) (by kernel_rfl) (by kernel_rfl) (by kernel_rfl) (fun _ _ _ h => h) (Or.inl ⟨by kernel_rfl, fun u hu => exec_ixS hlt hcd (.tmp 33) (.tmp 34) (by kernel_rfl) (by kernel_rfl) (by kernel_rfl)⟩) hHeld ?_
    simp only [Act.put, List.setIfInBounds_toArray, List.set_cons_zero, List.set_cons_succ]
    refine go_take 7 36 _ (.bool (c == 100)) rfl (by kernel_rfl) (by kernel_rfl) (by kernel_rfl) (by kernel_rfl) (fun _ _ _ h => h) (Or.inl ⟨by kernel_rfl, fun u hu => exec_eq8 (.tmp 35) (.const (.int .u8 100)) (by kernel_rfl) (by kernel_rfl) (by kernel_rfl) (u8_eq c 100)⟩) hHeld ?_
    simp only [Act.put, List.setIfInBounds_toArray, List.set_cons_zero, List.set_cons_succ]
    refine go_callE 8 37 _ rfl (by kernel_rfl) (by kernel_rfl) (by kernel_rfl) 199 (.func 199) #[.tmp 32, .tmp 36] #[9, 4] (by kernel_rfl) #[] (by kernel_rfl) #[.string ⟨y.toArray⟩, .bool (c == 100)] (by kernel_rfl) (enters_of Tryz.func199 (by kernel_rfl) rfl) (fun v u => ∃ A AN b1, v = .tuple #[.int .i64 A, .int .i64 AN, .bool b1] ∧ nmP (c == 100) y = (if b1 = true then some (A, AN) else none)) ?_ ?_
    · exact num_held hHeld hyl
    rintro _ u2 hH2 ⟨B, BN, b2, rfl, hB⟩
    simp only [Act.put, List.setIfInBounds_toArray, List.set_cons_zero, List.set_cons_succ]
    refine go_take 9 28 _ (.tuple #[.int .i64 B, .int .i64 BN, .bool b2]) rfl (by kernel_rfl) (by kernel_rfl) (by kernel_rfl) (by kernel_rfl) (fun _ _ _ h => h) (Or.inl ⟨by kernel_rfl, fun u hu => by kernel_rfl⟩) hH2 ?_
    simp only [Act.put, List.setIfInBounds_toArray, List.set_cons_zero, List.set_cons_succ]
    refine go_take 10 38 _ (.int .i64 B) rfl (by kernel_rfl) (by kernel_rfl) (by kernel_rfl) (by kernel_rfl) (fun _ _ _ h => h) (Or.inl ⟨by kernel_rfl, fun u hu => by kernel_rfl⟩) hH2 ?_
    simp only [Act.put, List.setIfInBounds_toArray, List.set_cons_zero, List.set_cons_succ]
    refine go_take 11 39 _ (.int .i64 BN) rfl (by kernel_rfl) (by kernel_rfl) (by kernel_rfl) (by kernel_rfl) (fun _ _ _ h => h) (Or.inl ⟨by kernel_rfl, fun u hu => by kernel_rfl⟩) hH2 ?_
    simp only [Act.put, List.setIfInBounds_toArray, List.set_cons_zero, List.set_cons_succ]
    refine go_take 12 40 _ (.bool b2) rfl (by kernel_rfl) (by kernel_rfl) (by kernel_rfl) (by kernel_rfl) (fun _ _ _ h => h) (Or.inl ⟨by kernel_rfl, fun u hu => by kernel_rfl⟩) hH2 ?_
    simp only [Act.put, List.setIfInBounds_toArray, List.set_cons_zero, List.set_cons_succ]
    refine go_take 13 8 _ (.int .i64 B) rfl (by kernel_rfl) (by kernel_rfl) (by kernel_rfl) (by kernel_rfl) (fun _ _ _ h => h) (Or.inl ⟨by kernel_rfl, fun u hu => by kernel_rfl⟩) hH2 ?_
    simp only [Act.put, List.setIfInBounds_toArray, List.set_cons_zero, List.set_cons_succ]
    refine go_take 14 9 _ (.int .i64 BN) rfl (by kernel_rfl) (by kernel_rfl) (by kernel_rfl) (by kernel_rfl) (fun _ _ _ h => h) (Or.inl ⟨by kernel_rfl, fun u hu => by kernel_rfl⟩) hH2 ?_
    simp only [Act.put, List.setIfInBounds_toArray, List.set_cons_zero, List.set_cons_succ]
    refine go_take 15 10 _ (.bool b2) rfl (by kernel_rfl) (by kernel_rfl) (by kernel_rfl) (by kernel_rfl) (fun _ _ _ h => h) (Or.inl ⟨by kernel_rfl, fun u hu => by kernel_rfl⟩) hH2 ?_
    simp only [Act.put, List.setIfInBounds_toArray, List.set_cons_zero, List.set_cons_succ]
    refine wpAnyH_done (by kernel_rfl) ?_ _
    refine NoPanic.normal ?_
    have hx2 := hx1.low hH2
    have hB2 := hB1.trans (Below.mono hH2 hB1.size)
    obtain ⟨c0, c1, c2, c3, c4⟩ := hx2.cells
    have f0 := hx2.frozen 0
    have f1 := hx2.frozen 1
    have f2 := hx2.frozen 2
    have f3 := hx2.frozen 3
    have f4 := hx2.frozen 4
    have hP := hx2.putH5 A AN B BN [] (.slice none 0 0)
    have hBP := cm_low hB2 (.int .i64 A) (.int .i64 AN) (.int .i64 B) (.int .i64 BN) (.slice none 0 0)
    have HD := HC.out A AN B BN b1 b2 hA hB
    clear HC hA hB hx hy hcd
    cases b1 with
    | true =>
      go_wp2
      refine bodyPost_ret (nm_ret _ _ _ _ _ hP rfl rfl) rfl ⟨?_, hBP⟩
      simpa using HD
    | false =>
      go_wp2
      refine bodyPost_ret (nm_ret _ _ _ _ _ hP rfl rfl) rfl ⟨?_, hBP⟩
      simpa using HD
end Go.Proofs.YtgiojkhmkeocfaaGreatDoor
