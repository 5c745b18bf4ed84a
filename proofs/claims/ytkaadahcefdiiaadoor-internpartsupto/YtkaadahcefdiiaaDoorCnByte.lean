/-
  Bytes and texts as the walks of layer canon compare them.
-/
import Derived.Test.YtkaadahcefdiiaaDoorProg
import Derived.Test.YtkaadahcefdiiaaDoorCnMath
import Derived.Test.YtkaadahcefdiiaaDoorKit
import Derived.WalkKit
import Derived.WalkSpells
import Derived.WalkLawsBesides
import Derived.Deep.QuietTactic
import Derived.BigQuiet
namespace Go.Proofs.YtkaadahcefdiiaaDoor
open Cn Go.RowKit

theorem toNat_ne {x c : UInt8} (h : x ≠ c) : x.toNat ≠ c.toNat := fun e => h (UInt8.toNat_inj.1 e)
theorem not10 {x : UInt8} (h : x ≠ 10) : ((x.toNat : Int) == 10) = false ∧ ((x.toNat : Int) != 10) = true := by
  have : x.toNat ≠ 10 := toNat_ne h
  constructor
  · rw [beq_eq_false_iff_ne]; omega
  · rw [bne_iff_ne]; omega
theorem not9 {x : UInt8} (h : x ≠ 9) : ((x.toNat : Int) == 9) = false ∧ ((x.toNat : Int) != 9) = true := by
  have : x.toNat ≠ 9 := toNat_ne h
  constructor
  · rw [beq_eq_false_iff_ne]; omega
  · rw [bne_iff_ne]; omega

/-- white space by a byte's number -/
def whI (n : Int) : Bool := decide (n = 32 ∨ (9 ≤ n ∧ n ≤ 13 ∧ n ≠ 10))
theorem wh_num (c : UInt8) : whI (c.toNat : Int) = wh c := by
  have h : ∀ c : Fin 256, whI ((UInt8.ofNat c.val).toNat : Int) = wh (UInt8.ofNat c.val) := by decide +kernel
  have := h ⟨c.toNat, c.toNat_lt⟩
  simpa using this

def sizeT : Value → Nat
  | .string s => s.size
  | _ => 0
theorem sizeT_mk (r : List UInt8) : sizeT (.string ⟨r.toArray⟩) = r.length := rfl

theorem bare_nil : bareL [] = [] ∧ feedB [] = false := ⟨rfl, rfl⟩
theorem bare_yes {l : List UInt8} (h0 : 0 < l.length) (h : l[l.length - 1] = 10) : bareL l = l.take (l.length - 1) ∧ feedB l = true := by
  have hf : feedB l = true := by unfold feedB; rw [List.getLast?_eq_getElem?, List.getElem?_eq_getElem (by omega), h]; rfl
  exact ⟨by rw [bareL, hf, List.dropLast_eq_take]; rfl, hf⟩
theorem bare_no {l : List UInt8} (h0 : 0 < l.length) (h : l[l.length - 1] ≠ 10) : bareL l = l ∧ feedB l = false := by
  have hf : feedB l = false := by unfold feedB; rw [List.getLast?_eq_getElem?, List.getElem?_eq_getElem (by omega)]; simpa using h
  exact ⟨by rw [bareL, hf]; rfl, hf⟩

theorem cut_last {r : List UInt8} (h0 : 0 < r.length) : r = r.take (r.length - 1) ++ [r[r.length - 1]] := by
  have := List.take_append_getElem (l := r) (i := r.length - 1) (by omega)
  rw [this, List.take_of_length_le (by omega)]
theorem tr_last {r : List UInt8} (h0 : 0 < r.length) (h : wh r[r.length - 1] = true) : trL (r.take (r.length - 1)) = trL r := by
  conv => rhs; rw [cut_last h0]
  exact (tr_white _ h).symm
theorem tr_stay {r : List UInt8} (h0 : 0 < r.length) (h : wh r[r.length - 1] = false) : trL r = r := by
  conv => lhs; rw [cut_last h0]
  rw [tr_keep _ h]
  exact (cut_last h0).symm

theorem infoU8 : (Tryd.prog.info? 5).map (fun i => (i.zero, i.size, i.bytes)) = some (some (.int .u8 0), 1, 1) := by kernel_rfl

theorem low_yes {c : UInt8} (h : 65 ≤ c.toNat ∧ c.toNat ≤ 90) : ((low c).toNat : Int) = (c.toNat : Int) - 65 + 97 := by
  have e : low c = c + 32 := by rw [low, if_pos h]
  rw [e, UInt8.toNat_add]
  have : (32 : UInt8).toNat = 32 := rfl
  rw [this]
  omega
theorem low_no {c : UInt8} (h : ¬ (65 ≤ c.toNat ∧ c.toNat ≤ 90)) : low c = c := by rw [low, if_neg h]
end Go.Proofs.YtkaadahcefdiiaaDoor
