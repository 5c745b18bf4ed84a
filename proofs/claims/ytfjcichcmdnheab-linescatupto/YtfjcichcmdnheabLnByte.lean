/-
  Bytes as the walks compare them.
-/
import Derived.Test.YtfjcichcmdnheabLnMath
import Derived.Test.YtfjcichcmdnheabLnShelf
import Derived.Test.YtfjcichcmdnheabKit
import Derived.WalkKit
import Derived.WalkSpells
import Derived.WalkLawsBesides
import Derived.Deep.QuietTactic
import Derived.BigQuiet
namespace Go.Proofs.Ytfjcichcmdnheab
open Ln Go.RowKit

theorem toNat_ne {x c : UInt8} (h : x ≠ c) : x.toNat ≠ c.toNat := fun e => h (UInt8.toNat_inj.1 e)
theorem is10 {x : UInt8} (h : x = 10) : ((x.toNat : Int) == 10) = true ∧ ((x.toNat : Int) != 10) = false := by subst h; exact ⟨rfl, rfl⟩
theorem not10 {x : UInt8} (h : x ≠ 10) : ((x.toNat : Int) == 10) = false ∧ ((x.toNat : Int) != 10) = true := by
  have : x.toNat ≠ 10 := toNat_ne h
  constructor
  · rw [beq_eq_false_iff_ne]; omega
  · rw [bne_iff_ne]; omega
theorem not0 {x : UInt8} (h : x ≠ 0) : ((x.toNat : Int) == 0) = false := by
  have : x.toNat ≠ 0 := toNat_ne h
  rw [beq_eq_false_iff_ne]; omega

theorem same_byte {x y : UInt8} (h : x = y) : ((x.toNat : Int) == (y.toNat : Int)) = true ∧ ((x.toNat : Int) != (y.toNat : Int)) = false := by subst h; exact ⟨beq_self_eq_true _, bne_self_eq_false _⟩
theorem other_byte {x y : UInt8} (h : x ≠ y) : ((x.toNat : Int) == (y.toNat : Int)) = false ∧ ((x.toNat : Int) != (y.toNat : Int)) = true := by
  have := toNat_ne h
  constructor
  · rw [beq_eq_false_iff_ne]; omega
  · rw [bne_iff_ne]; omega

end Go.Proofs.Ytfjcichcmdnheab
