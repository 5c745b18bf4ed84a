/-
  Texts that belong together, joined: EfJo, HuLn, HuC2, HuC3, HuWk.
-/
import Derived.Test.YtoddldblilmbjaaGreatDoorPartC3
import Derived.Test.YtoddldblilmbjaaGreatDoorPartA4
import Derived.Test.YtoddldblilmbjaaGreatDoorPartA7
import Derived.Lib.AppendStr
import Derived.BigQuiet

/- The code's Join of layer lines, walked over rows as stage 5 says them. -/
set_option maxRecDepth 20000
namespace Go.Proofs.YtoddldblilmbjaaGreatDoor
open Ln Go.RowKit

def efbas (ws : List (List UInt8)) : List ByteArray := ws.map fun a => ⟨a.toArray⟩
theorem efbas_length (ws : List (List UInt8)) : (efbas ws).length = ws.length := by simp [efbas]
theorem efbas_data (ws : List (List UInt8)) : (efbas ws).map (fun s => s.data.toList) = ws := by simp [efbas, Function.comp_def]
set_option maxHeartbeats 1000000 in
theorem lJoin_f (v : Value) (ws : List (List UInt8)) (w : World) (hl : ws.length ≤ 1099511627776) (hf : ws.flatten.length ≤ 1099511627776) (hv : HS w v ws) :
    Calls Tryz.prog 13 #[v] w fun e w' => e = .returned (.string ⟨ws.flatten.toArray⟩) ∧ Below w.heap.size w w' := by
  by_cases h0 : 0 < ws.length
  · obtain ⟨vo, vc, rfl⟩ := Holds.form hv
    have hcap : ws.length ≤ vc := (by
      rcases hv with ⟨h, h1, _⟩ | ⟨ad, c', h, h3, _⟩
      · omega
      · cases h; exact h3)
    obtain ⟨b1, o1, rfl, hb1, hc1⟩ := HS.at hv h0
    have hj : (Lib.join ((efbas ws).map fun s => s.data.toList) (⟨#[]⟩ : ByteArray).data.toList) = ws.flatten := by rw [efbas_data]; exact join_nil_sep ws
    have hJ := Tryz.strings_Join b1 o1 vc (efbas ws) ⟨#[]⟩ w (by
      intro j y hy
      have hjl : j < ws.length := by have := (List.getElem?_eq_some_iff.1 hy).1; simpa [efbas] using this
      rw [hc1 j hjl]
      simp [efbas, hjl] at hy
      rw [hy]) hb1 (by rw [efbas_length]; omega) (by rw [efbas_length]; exact hcap) (by rw [hj]; omega)
    rw [hj, efbas_length] at hJ
    clear hc1 hj hv
    go_enter Tryz.func13, Tryz.ntmps13
    go_wp2_with fail
    refine hJ.mono ?_
    rintro e w1 ⟨rfl, hb⟩
    go_wp2
    go_ret
    exact ⟨rfl, hb⟩
  · obtain rfl := List.eq_nil_of_length_eq_zero (by omega : ws.length = 0)
    obtain ⟨vo, vc, rfl⟩ := Holds.form hv
    go_enter Tryz.func13, Tryz.ntmps13
    go_wp2_with fail
    refine (Tryz.strings_Join_none vo vc ⟨#[]⟩ _).mono ?_
    rintro e w1 ⟨rfl, rfl⟩
    go_wp2
    go_ret
    exact ⟨rfl, Below.refl _ _⟩
end Go.Proofs.YtoddldblilmbjaaGreatDoor

/- Check of layer lines, walked at rows of texts; slices.ContainsFunc, walked at lines with signs. -/
set_option maxRecDepth 20000
namespace Go.Proofs.YtoddldblilmbjaaGreatDoor
open Ln Go.RowKit

/-- slices.IndexFunc, slices.ContainsFunc: the function may lay blocks -/
theorem idx_any {l : List Mk} {p : Mk → Bool} {k : Nat} (hk : k < l.length) : (l.drop k).any p = (p l[k] || (l.drop (k + 1)).any p) := by
  rw [List.drop_eq_getElem_cons hk, List.any_cons]
end Go.Proofs.YtoddldblilmbjaaGreatDoor

/- The code's Check of layer 11, walked. -/
set_option maxRecDepth 20000
namespace Go.Proofs.YtoddldblilmbjaaGreatDoor
open Ln Go.RowKit

theorem rng_nm (h : Hk) : rngB h = (nmB h.A h.AN && nmB h.B h.BN) := by
  unfold rngB nmB
  cases nat31 h.A <;> cases nat31 h.AN <;> cases nat31 h.B <;> cases nat31 h.BN <;> cases decide (h.A = 0) <;> cases decide (0 < h.AN) <;> cases decide (h.B = 0) <;> cases decide (0 < h.BN) <;> rfl
theorem pk_mem {no : Int} {l : List Mk} {a : List UInt8} (h : a ∈ pkL no l) : ∃ m ∈ l, m.tx = a := by
  induction l with
  | nil => cases h
  | cons m l ih =>
    simp only [pkL] at h
    split at h
    · rcases List.mem_cons.1 h with rfl | h
      · exact ⟨m, by simp, rfl⟩
      · obtain ⟨x, hx, e⟩ := ih h
        exact ⟨x, by simp [hx], e⟩
    · obtain ⟨x, hx, e⟩ := ih h
      exact ⟨x, by simp [hx], e⟩
theorem chk_rng {h : Hk} (hq : rngB h = false) : chkH h = 2 := by
  unfold chkH
  rw [if_pos hq]
theorem chk_fld {h : Hk} (h1 : rngB h = true) (hq : fldB h.ls = false) : chkH h = 6 := by
  unfold chkH
  rw [if_neg (by rw [h1]; decide), if_pos hq]
theorem chk_cnt {h : Hk} (h1 : rngB h = true) (h2 : fldB h.ls = true) (hq : h.AN ≠ (oldL h).length ∨ h.BN ≠ (newL h).length) : chkH h = 120 := by
  unfold chkH
  rw [if_neg (by rw [h1]; decide), if_neg (by rw [h2]; decide), if_pos hq]
theorem all_chg {l : List Mk} (ha : allB l = true) : l.all (fun m => decide (m.sg = 32)) = !l.any chgB := by
  induction l with
  | nil => rfl
  | cons m l ih =>
    simp only [allB, List.all_cons, Bool.and_eq_true] at ha
    simp only [List.all_cons, List.any_cons]
    rw [ih ha.2]
    have hm := ha.1
    simp only [okS, Bool.or_eq_true, decide_eq_true_eq] at hm
    unfold chgB
    rcases hm with (hm | hm) | hm <;> rw [hm] <;> simp
theorem chk_end {h : Hk} (h1 : rngB h = true) (h2 : fldB h.ls = true) (h3 : h.AN = (oldL h).length) (h4 : h.BN = (newL h).length) {q : Bool} (hq : h.ls.any chgB = q) : chkH h = if q = true then 0 else 50 := by
  unfold chkH
  rw [if_neg (by rw [h1]; decide), if_neg (by rw [h2]; decide), if_neg (fun k => by rcases k with k | k <;> contradiction)]
  have ha : allB h.ls = true := by
    have := fld_code h.ls
    rw [h2] at this
    simp only [Bool.true_eq, Bool.and_eq_true] at this
    exact this.1.1
  rw [all_chg ha, hq]
  cases q <;> rfl
theorem any_strange (l : List Mk) : l.any (fun m => !okS m.sg) = !allB l := by
  induction l with
  | nil => rfl
  | cons m l ih =>
    simp only [List.any_cons, allB, List.all_cons, Bool.not_and] at ih ⊢
    rw [ih]
end Go.Proofs.YtoddldblilmbjaaGreatDoor

/- The code's Order of layer 11, walked. -/
set_option maxRecDepth 20000
namespace Go.Proofs.YtoddldblilmbjaaGreatDoor
open Go.RowKit

end Go.Proofs.YtoddldblilmbjaaGreatDoor

/- The laws' own works of layer 11, walked: the chapter's first case. -/
set_option maxRecDepth 20000
namespace Go.Proofs.YtoddldblilmbjaaGreatDoor
open Go.RowKit

def exA : List (List UInt8) := [[49, 10], [50, 10], [51, 10], [52, 10], [53, 10], [54, 10]]
def exB : List (List UInt8) := [[49, 10], [51, 10], [52, 10], [53, 10], [120, 10], [54, 10]]
def exL : List Ch := [⟨1, 1, 1, 0⟩, ⟨5, 0, 4, 1⟩]
def exH0 : Hk := ⟨1, 3, 1, 2, [⟨32, [49, 10]⟩, ⟨45, [50, 10]⟩, ⟨32, [51, 10]⟩]⟩
def exH1 : Hk := ⟨5, 2, 4, 3, [⟨32, [53, 10]⟩, ⟨43, [120, 10]⟩, ⟨32, [54, 10]⟩]⟩
def exH2 : Hk := ⟨1, 6, 1, 6, [⟨32, [49, 10]⟩, ⟨45, [50, 10]⟩, ⟨32, [51, 10]⟩, ⟨32, [52, 10]⟩, ⟨32, [53, 10]⟩, ⟨43, [120, 10]⟩, ⟨32, [54, 10]⟩]⟩
theorem ex_e1 : grpE exL exA.length exB.length 1 = 0 := by rfl
theorem ex_e2 : grpE exL exA.length exB.length 2 = 0 := by rfl
theorem ex_r1 : mkR exL exA exB 1 = [exH0, exH1] := by rfl
theorem ex_r2 : mkR exL exA exB 2 = [exH2] := by rfl
theorem ex_o2 : ordH [exH2] = 0 := by rfl
theorem map_two {P : List (Hk × Value)} {h0 h1 : Hk} (h : P.map (·.1) = [h0, h1]) : ∃ y0 y1, P = [(h0, y0), (h1, y1)] := by
  match P, h with
  | [(x0, y0), (x1, y1)], h =>
    simp at h
    obtain ⟨rfl, rfl⟩ := h
    exact ⟨y0, y1, rfl⟩
theorem map_one {P : List (Hk × Value)} {h0 : Hk} (h : P.map (·.1) = [h0]) : ∃ y0, P = [(h0, y0)] := by
  match P, h with
  | [(x0, y0)], h =>
    simp at h
    subst h
    exact ⟨y0, rfl⟩
end Go.Proofs.YtoddldblilmbjaaGreatDoor
