/-
  The reference's form of a line, and the steps of layer canon in their memory, walked.
-/
import Derived.Test.YtkaadahcefdiiaaDoorCnBox
namespace Go.Proofs.YtkaadahcefdiiaaDoor
open Cn Go.RowKit
theorem ba_cat (a b : List UInt8) : ((⟨a.toArray⟩ : ByteArray) ++ (⟨b.toArray⟩ : ByteArray)) = ⟨(a ++ b).toArray⟩ := by
  apply ByteArray.ext
  simp [ByteArray.data_append]
attribute [local go_sem] ba_at ByteArray.extract_mk ba_cat

set_option maxHeartbeats 1000000 in
theorem refCanon_any (l : List UInt8) (o : Ig) (w : World) (hl : l.length ≤ 137438953472) :
    Calls Tryd.prog 24 #[.string ⟨l.toArray⟩, igV o] w fun e w' => e = .returned (.string ⟨(canonL o l).toArray⟩) ∧ Below w.heap.size w w' := by
  have hbl := bare_len l
  have hsl := stg_len o (bareL l) 5
  have hbx := Boxed.fresh o w
  have hb0 : Below w.heap.size w (w.alloc (.cells #[.bool o.sp, .bool o.wt, .bool o.bl, .bool o.cs, .bool o.tb, .bool o.tr] 24)) := (Below.refl _ w).alloc (Nat.le_refl _) _
  have HC : Hid (canonL o l = stg o 5 (bareL l) ++ feedL l) := rfl
  unfold igV
  go_enter Tryd.func24, Tryd.ntmps24
  go_wp2_with fail
  refine (refBare_any l _ (by omega)).mono ?_
  rintro e w1 ⟨rfl, rfl⟩
  have hd := hbx.cells
  have hz := hb0.size
  generalize w.alloc (.cells #[.bool o.sp, .bool o.wt, .bool o.bl, .bool o.cs, .bool o.tb, .bool o.tr] 24) = wb at hbx hb0 hd hz ⊢
  obtain ⟨d0, d1, d2, d3, d4, d5⟩ := hd
  cases hf : feedB l
  · have HF : Hid (feedL l = []) := by show _ = _; rw [feedL, hf]; rfl
    go_wp2_with fail
    refine (refText_any (bareL l) o _ (by omega)).mono ?_
    rintro e w2 ⟨rfl, hb2⟩
    go_wp2
    go_ret
    rw [HC.out, HF.out, List.append_nil]
    exact ⟨rfl, hb0.trans (hb2.mono hz)⟩
  · have HF : Hid (feedL l = [10]) := by show _ = _; rw [feedL, hf]; rfl
    go_wp2_with fail
    refine (refText_any (bareL l) o _ (by omega)).mono ?_
    rintro e w2 ⟨rfl, hb2⟩
    go_wp2
    go_ret
    rw [HC.out, HF.out]
    exact ⟨rfl, hb0.trans (hb2.mono hz)⟩

theorem new2 (w : World) (x y : Obj) : ((w.alloc x).alloc y).heap[w.heap.size + 1]? = some y := by
  have h := _root_.Go.heap_alloc_new (w.alloc x) y
  have e : (w.alloc x).heap.size = w.heap.size + 1 := by simp
  rwa [e] at h
/-- the steps as they lie in memory -/
def Stepped (o : Ig) (g : Nat) (w : World) : Prop :=
  w.heap[g]? = some (.cells #[.bool o.tb, .func (.func 26) #[] #[], .bool o.wt, .func (.func 27) #[] #[], .bool o.sp, .func (.func 28) #[] #[], .bool o.tr, .func (.func 29) #[] #[], .bool o.cs, .func (.func 30) #[] #[]] 55 (0, 0))
theorem Stepped.keep {o : Ig} {g : Nat} {w w' : World} (h : Stepped o g w) (hb : Below w.heap.size w w') : Stepped o g w' :=
  (hb.block g (Array.getElem?_eq_some_iff.1 h).1).trans h

set_option maxHeartbeats 1000000 in
theorem steps_any (o : Ig) (w : World) :
    Calls Tryd.prog 23 #[igV o] w fun e w' => ∃ g, e = .returned (.slice (some ⟨g, 0, none⟩) 5 5) ∧ Stepped o g w' ∧ Below w.heap.size w w' := by
  unfold igV
  go_enter Tryd.func23, Tryd.ntmps23
  go_wp2
  go_ret
  exact ⟨w.heap.size + 1, rfl, new2 w _ _, ((Below.refl _ w).alloc (Nat.le_refl _) _).alloc (by simp) _⟩
end Go.Proofs.YtkaadahcefdiiaaDoor
