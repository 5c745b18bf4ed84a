/-
  Worlds behind a draw: new rows and what is carried.
-/
import Derived.Test.YtppdcjjkkckokaaEdWalk
namespace Go.Proofs.Ytppdcjjkkckokaa
open Go.RowKit
attribute [local simp] low_drew

theorem new_holds_d (W : World) (cs : Array Value) (e : TypeId) (k c : Nat) (hkc : k ≤ c) : Holds (W.alloc (.cells cs e)).drew (.slice (some ⟨W.heap.size, 0, none⟩) k c) k cs.toList := by
  have := new_holds W cs e k c hkc
  exact this
theorem st_d {W : World} {e : TypeId} {s : Nat} {v : Value} {k : Nat} {xs : List Value} {w : World} (o : Obj) (h : St W e s v k xs w) : St W e s v k xs (w.alloc o).drew := (st_drew _ _ _ _ _ _ _).2 (st_alloc o h)
theorem alloc_second (w : World) (o o2 : Obj) : ((w.alloc o).alloc o2).heap[w.heap.size + 1]? = some o2 := by
  have h := _root_.Go.heap_alloc_new (w.alloc o) o2
  rw [World.size_alloc] at h
  exact h
theorem owns_d {W : World} {base : Nat} {e : TypeId} {s : Nat} {v : Value} {n : Nat} {xs : List Value} (h : W.ownsRow base e s v n xs) (o : Obj) : (W.alloc o).drew.ownsRow base e s v n xs := by
  have := h.alloc o
  exact this
end Go.Proofs.Ytppdcjjkkckokaa
