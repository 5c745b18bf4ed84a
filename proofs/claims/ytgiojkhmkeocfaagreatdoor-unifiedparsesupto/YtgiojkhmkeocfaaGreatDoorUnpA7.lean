/-
  Texts that belong together, joined: CpM, CpN, NpS, CpO, CrN, CrV, CrH, CrZ, PgM, CpP, NpT, CrS, CpQ, CrX, CrY, PgS, CrL, CrQ, CrR.
-/
import Derived.Test.YtgiojkhmkeocfaaGreatDoorUnpA6
import Derived.Test.YtgiojkhmkeocfaaGreatDoorUnpA3
import Derived.Test.YtgiojkhmkeocfaaGreatDoorUnpA2
import Derived.Defers
import Derived.Recover
import Derived.Test.YtgiojkhmkeocfaaGreatDoorUnpA4
import Derived.BigQuiet
import Derived.Test.YtgiojkhmkeocfaaGreatDoorUnpA5
import Derived.Deep.CutBlock
import Derived.Deep.CutRange

/- The code's reader of layer 15, walked: a patch. -/
set_option maxRecDepth 20000
namespace Go.Proofs.YtgiojkhmkeocfaaGreatDoor
open Go.RowKit

theorem call_entersR {P : Program} {A : Act} {op : Oper} {w : World} {F : Nat} {x : Operand} {xs : Array Operand} {ts : Array TypeId} (ho : op.op = .call { callee := .value x, args := xs, argTypes := ts }) {cap : Array Value} (hxv : A.eval x = .func (.func F) #[] cap) {args : Array Value} (hx : xs.map A.eval = args) (hen : ∀ args w, (callFunc F args).run P w = .ok (.enter F args) w) : (execOp A.eval op).run P w = .ok (.enter F (args ++ cap)) w := by
  have h1 := hen (args ++ cap) w
  simp only [execOp, ho, resolve, invoke]
  simp only [hxv, Deferred.ofValue, Sem.run_bind, Sem.run_pure, Result.andThen_ok, hx, Array.empty_append]
  exact h1
theorem go_callR {P : Program} {S : World → Prop} {md : Region.Mode} {ops : Array Oper} {Q : Exit → Act → World → Prop} {fuel : Nat} {listed : Array Bool} {A : Act} {w : World}
    (i d : Nat) (op : Oper) (hi : ops[i]? = some op) (hd : op.dst = some d) (hr : Region.ready md ops listed = [i]) (hwt : Region.wanted op (yielded ops A.tmps) = true)
    (F : Nat) (x : Operand) (xs : Array Operand) (ts : Array TypeId) (ho : op.op = .call { callee := .value x, args := xs, argTypes := ts })
    (cap : Array Value) (hxv : A.eval x = .func (.func F) #[] cap) (args : Array Value) (hx : xs.map A.eval = args) (hen : ∀ args w, (callFunc F args).run P w = .ok (.enter F args) w) (R : Value → World → Prop) (Pn : List PanicEntry → World → Prop)
    (hp : ∀ c w', Pn c w' → Q (.panic c) A w')
    (hc : Calls P F (args ++ cap) w fun e w' => (∃ v, e = .returned v ∧ S w' ∧ R v w') ∨ (∃ c, e = .panicked c ∧ Pn c w'))
    (h : ∀ v w', S w' → R v w' → wpAnyH P md ops Q S fuel (listed.setIfInBounds i true) (A.put (some d) v) w') :
    wpAnyH P md ops Q S (fuel + 1) listed A w := by
  refine wpAnyH_ready hr (by simp) (AllReadyH.cons hi (fun K hK => ?_) AllReadyH.nil)
  refine step_want hwt ?_
  unfold Oper.wp
  rw [call_entersR ho hxv hx hen, Oper.upon_enter]
  refine hc.mono ?_
  rintro e w' (⟨v, rfl, hb, hR⟩ | ⟨c, rfl, hpn⟩)
  · exact hK.out _ _ hb (fun hu => by rw [hd]; exact h v w' hu hR)
  · exact hp c w' hpn
theorem go_valCallR {P : Program} {S : World → Prop} {md : Region.Mode} {ops : Array Oper} {Q : Exit → Act → World → Prop} {fuel : Nat} {listed : Array Bool} {A : Act} {w : World}
    (j e : Nat) (oq : Oper) (i d : Nat) (op : Oper) (hj : ops[j]? = some oq) (he : oq.dst = some e) (hi : ops[i]? = some op) (hd : op.dst = some d) (hr : Region.ready md ops listed = [j, i]) (hwq : Region.wanted oq (yielded ops A.tmps) = true) (hwt : Region.wanted op (yielded ops A.tmps) = true)
    (vq : Value) (wq : World) (hq : (execOp A.eval oq).run P w = .ok (.value vq) wq) (hS : S wq)
    (F : Nat) (x : Operand) (xs : Array Operand) (ts : Array TypeId) (ho : op.op = .call { callee := .value x, args := xs, argTypes := ts })
    (cap : Array Value) (hxv : A.eval x = .func (.func F) #[] cap) (args : Array Value) (hx : xs.map A.eval = args) (hen : ∀ args w, (callFunc F args).run P w = .ok (.enter F args) w) (R : Value → World → Prop) (Pn : List PanicEntry → World → Prop)
    (hp : ∀ c w', Pn c w' → Q (.panic c) A w')
    (hc : Calls P F (args ++ cap) w fun e w' => (∃ v, e = .returned v ∧ S w' ∧ R v w') ∨ (∃ c, e = .panicked c ∧ Pn c w'))
    (h2 : wpAnyH P md ops Q S fuel (listed.setIfInBounds j true) (A.put (some e) vq) wq)
    (h : ∀ v w', S w' → R v w' → wpAnyH P md ops Q S fuel (listed.setIfInBounds i true) (A.put (some d) v) w') :
    wpAnyH P md ops Q S (fuel + 1) listed A w := by
  refine wpAnyH_ready hr (by simp) (AllReadyH.cons hj (fun K hK => ?_) (AllReadyH.cons hi (fun K hK => ?_) AllReadyH.nil))
  · refine step_want hwq ?_
    unfold Oper.wp
    rw [hq, Oper.upon_value]
    exact hK.out _ _ hS (fun _ => by rw [he]; exact h2)
  · refine step_want hwt ?_
    unfold Oper.wp
    rw [call_entersR ho hxv hx hen, Oper.upon_enter]
    refine hc.mono ?_
    rintro e w' (⟨v, rfl, hb, hR⟩ | ⟨c, rfl, hpn⟩)
    · exact hK.out _ _ hb (fun hu => by rw [hd]; exact h v w' hu hR)
    · exact hp c w' hpn
theorem load_hksR {u : World} {a : Addr} {o : Option Addr} {n c : Nat} (h : u.cell? a = some (.slice o n c)) {op : Oper} (x : Operand) (ho : op.op = .load 34 x) {ev : Operand → Value} (hx : ev x = .pointer (some a)) :
    (execOp ev op).run Tryz.prog u = .ok (.value (.slice o n c)) u := by
  simp only [execOp, ho, hx]
  go_simp
theorem exec_storeHR {u : World} {a : Addr} {v0 : Value} (hc : u.cell? a = some v0) (hf : u.frozen? a = false) {o : Option Addr} {n c : Nat} {op : Oper} (x y : Operand) (ho : op.op = .store 34 x y) {ev : Operand → Value} (hx : ev x = .pointer (some a)) (hy : ev y = .slice o n c) :
    (execOp ev op).run Tryz.prog u = .ok .skip (u.setCell a (.slice o n c)) := by
  simp only [execOp, ho, hx, hy]
  go_simp
def zpO : Obj := .cells #[.string ⟨#[]⟩, .string ⟨#[]⟩, .slice none 0 0] 55
def mkP (n1 n2 : List UInt8) (Y : Except (Nat × Int) (List Hk × Nat × List (List UInt8))) : Except (Nat × Int) (Pth × Nat × List (List UInt8)) :=
  match Y with
  | .error e => .error e
  | .ok (hs, p3, r3) => .ok (⟨n1, n2, hs⟩, p3, r3)
def three (u : World) (Q : Nat) (n1 n2 : List UInt8) (v : Value) : World := ((u.setCell ⟨Q, 0, none⟩ (.string ⟨n1.toArray⟩)).setCell ⟨Q, 1, none⟩ (.string ⟨n2.toArray⟩)).setCell ⟨Q, 2, none⟩ v
theorem three_cells {w wb u : World} {R : Nat} (hg : wb.grownBy u (some R)) (hZ : wb.heap[w.heap.size]? = some zpO ∧ w.heap.size < wb.heap.size ∧ w.heap.size ≠ R) (Q : Nat) (hQ : w.heap.size = Q) :
    u.cell? ⟨Q, 0, none⟩ = some (.string ⟨#[]⟩) ∧ u.cell? ⟨Q, 1, none⟩ = some (.string ⟨#[]⟩) ∧ u.cell? ⟨Q, 2, none⟩ = some (.slice none 0 0) ∧ ∀ j, u.frozen? ⟨Q, j, none⟩ = false := by
  obtain ⟨h1, h2, h3⟩ := hZ
  have hb : u.heap[w.heap.size]? = some (.cells #[.string ⟨#[]⟩, .string ⟨#[]⟩, .slice none 0 0] 55) := (hg.block _ h2 (fun e => h3 (Option.some.inj e))).trans h1
  rw [hQ] at hb
  refine ⟨?_, ?_, ?_, fun j => Lib.frozen_of_heap hb j⟩ <;> rw [Lib.cell_of_heap hb] <;> rfl
end Go.Proofs.YtgiojkhmkeocfaaGreatDoor

/- The code's Parse of layer 15: what is thrown is caught. -/
set_option maxRecDepth 20000
namespace Go.Proofs.YtgiojkhmkeocfaaGreatDoor
open Go.RowKit

/-- a post that says of a panic what it leaves in memory and in three places of the frame -/
def PanC (Q : Exit → Act → World → Prop) (Pn : List PanicEntry → World → Prop) (p2 p3 : Value) (ds : List Deferred) : Exit → Act → World → Prop
  | .panic c, a, w => Pn c w ∧ a.tmps.getD 2 undef = p2 ∧ a.tmps.getD 3 undef = p3 ∧ a.defers = ds
  | .normal, a, w => Q .normal a w
  | _, _, _ => False
theorem PanC.normal {Q : Exit → Act → World → Prop} {Pn : List PanicEntry → World → Prop} {p2 p3 : Value} {ds : List Deferred} {a : Act} {w : World} (h : Q .normal a w) : PanC Q Pn p2 p3 ds .normal a w := h
theorem wp_region_panC {P : Program} {id : Nat} {ops : Array Oper} {b : Bool} {Q : Exit → Act → World → Prop} {a : Act} {w : World} (Pn : List PanicEntry → World → Prop) (p2 p3 : Value) (ds : List Deferred) (hP : ∀ c a w, Pn c w → a.tmps.getD 2 undef = p2 → a.tmps.getD 3 undef = p3 → a.defers = ds → Q (.panic c) a w) (h : (Code.region id ops b).wp P (PanC Q Pn p2 p3 ds) a w) : (Code.region id ops b).wp P Q a w := by
  refine Code.wp_mono (fun e a w h => ?_) h
  cases e with
  | panic c => exact hP c a w h.1 h.2.1 h.2.2.1 h.2.2.2
  | normal => exact h
  | _ => exact (h : False).elim
theorem panC_put {Q : Exit → Act → World → Prop} {Pn : List PanicEntry → World → Prop} {p2 p3 : Value} {ds : List Deferred} {d : Nat} {v : Value} (h2 : d ≠ 2) (h3 : d ≠ 3) : ∀ c a w, PanC Q Pn p2 p3 ds (.panic c) (a.put (some d) v) w → PanC Q Pn p2 p3 ds (.panic c) a w := by
  rintro c a w ⟨x1, x2, x3, x4⟩
  refine ⟨x1, ?_, ?_, x4⟩
  · rw [← x2]
    simp [Act.put, Array.getD_eq_getD_getElem?, Array.getElem?_setIfInBounds_ne h2]
  · rw [← x3]
    simp [Act.put, Array.getD_eq_getD_getElem?, Array.getElem?_setIfInBounds_ne h3]
end Go.Proofs.YtgiojkhmkeocfaaGreatDoor

/- The lines of a text: Split of layer lines and of the reference, walked anew over the normal form's texts. -/
set_option maxRecDepth 20000
namespace Go.Proofs.YtgiojkhmkeocfaaGreatDoor
open Ln Go.RowKit
attribute [local go_sem] no_at ByteArray.extract_mk

theorem sc_snoc (ws : List (List UInt8)) (a : List UInt8) : scells (ws ++ [a]) = scells ws ++ [.string ⟨a.toArray⟩] := by simp [scells]
theorem sp_one (a : ByteArray) : ∀ u ∈ [Value.string a], u.oneCell' = true := by intro u hu; simp at hu; subst hu; rfl
theorem sp_cells (w : World) (C : List Value) (t : TypeId) : ∀ j u, C[j]? = some u → (w.alloc (.cells C.toArray t)).cell? ((⟨w.heap.size, 0, none⟩ : Addr).add j) = some u := by
  intro j u hj
  have hadd : (⟨w.heap.size, 0, none⟩ : Addr).add j = ⟨w.heap.size, j, none⟩ := by unfold Addr.add; split <;> simp_all
  rw [hadd, cell_of_row _ w.heap.size j C.toArray t (0, 0) (_root_.Go.heap_alloc_new w _)]
  simpa using hj

theorem sp_is10 {x : UInt8} (h : x = 10) : ((x.toNat : Int) == 10) = true ∧ ((x.toNat : Int) != 10) = false := by subst h; exact ⟨rfl, rfl⟩
theorem sp_not10 {x : UInt8} (h : x ≠ 10) : ((x.toNat : Int) == 10) = false ∧ ((x.toNat : Int) != 10) = true := by
  have h1 : x.toNat ≠ 10 := fun e => h (UInt8.toNat_inj.1 (by simpa using e))
  have h2 : ((x.toNat : Int) == 10) = false := beq_eq_false_iff_ne.2 (by omega)
  exact ⟨h2, by unfold bne; rw [h2]; rfl⟩

def sizeT : Value → Nat
  | .string s => s.size
  | _ => 0
theorem sizeT_mk (r : List UInt8) : sizeT (.string ⟨r.toArray⟩) = r.length := rfl
theorem acc_le {acc : List (List UInt8)} {r l : List UInt8} (h : acc ++ splitL r = splitL l) : acc.length ≤ l.length := by
  have h1 := congrArg List.length h
  have h2 := split_len l
  rw [List.length_append] at h1
  omega

set_option maxRecDepth 20000 in
set_option maxHeartbeats 2000000 in
theorem nSplit_f (l : List UInt8) (w : World) (hl : l.length ≤ 1099511627776) :
    Calls Tryz.prog 12 #[.string ⟨l.toArray⟩] w fun e w' => ∃ v, e = .returned v ∧ w'.ownsRow w.heap.size 9 1 v (splitL l).length (scells (splitL l)) ∧ Below w.heap.size w w' := by
  obtain ⟨i0, hi, hz0, hz1, hz2⟩ := info_parts infoStr
  go_enter Tryz.func12, Tryz.ntmps12
  go_wp2
  go_loopw [0, 3, 4] (fun s acc _ wr => ∃ (xs : List (List UInt8)) (r : List UInt8), s = .string ⟨r.toArray⟩ ∧ wr.ownsRow w.heap.size 9 1 acc xs.length (scells xs) ∧ Below w.heap.size w wr ∧ r.length ≤ l.length ∧ xs ++ splitL r = splitL l) (fun s _ _ _ => sizeT s)
  case atStart => exact ⟨[], l, rfl, World.ownsRow_nil _ _ _ _, Below.refl _ _, Nat.le_refl _, rfl⟩
  case round =>
    obtain ⟨acc, r, rfl, hown, hbr, hrl, hw⟩ := hrel
    have hacc := acc_le hw
    have HW : Hid (acc ++ splitL r = splitL l) := hw
    clear hw
    have hbz := hbr.size
    obtain ⟨ao, cap, rfl⟩ := (holds_of hown).form
    rcases Int.lt_or_le (Lib.indexByte r 10) 0 with hq | hq
    · obtain ⟨q1, q2⟩ := index_none hq
      clear hq
      cases r with
      | nil =>
        have HE : Hid (splitL l = acc) := by have := HW.out; show _ = _; simpa [splitL] using this.symm
        go_wp2_with fail
        refine (Tryz.strings_Index_one ⟨([] : List UInt8).toArray⟩ 10 _).mono ?_
        rintro e w1 ⟨rfl, rfl⟩
        go_wp2
        go_ret
        rw [HE.out]
        exact ⟨_, rfl, hown, hbr⟩
      | cons c t =>
        have HE : Hid (splitL l = acc ++ [c :: t]) := by
          have := HW.out
          rw [split_one _ q2 (by simp)] at this
          exact this.symm
        clear q2
        go_wp2_with fail
        refine (Tryz.strings_Index_one ⟨(c :: t).toArray⟩ 10 _).mono ?_
        rintro e w1 ⟨rfl, rfl⟩
        have hi2 : Lib.indexByte (⟨(c :: t).toArray⟩ : ByteArray).data.toList 10 = -1 := q1
        rw [hi2]
        go_wp2_with (at_builtin; refine wpList_append_own _ rfl _ _ 23 rfl w.heap.size 9 i0 (.string ⟨#[]⟩) 1 16 Tryz.underlying23 hi hz0 hz1 hz2 rfl (by decide) _ _ _ rfl (hown.alloc _) ⟨w1.heap.size, 0, none⟩ 1 1 [.string ⟨(c :: t).toArray⟩] rfl rfl (sp_cells _ _ _) (sp_one _) ?c3 ?c4 ?c5 ?_)
        case c3 => unfold maxLen; omega
        case c4 => omega
        case c5 => simp; omega
        intro v' w3 hown3 hgrow hfr
        have hbr3 := (hbr.alloc hbz (.cells #[.string ⟨(c :: t).toArray⟩] 9)).grown hgrow (by simp; omega) (fun j hj => (hown.lt j hj).1)
        go_wp2
        go_ret
        rw [HE.out, sc_snoc]
        exact ⟨_, rfl, by simpa using hown3, hbr3⟩
    · obtain ⟨a, b, rfl, hn, he⟩ := index_some hq
      have HE : Hid (acc ++ [a ++ [10]] ++ splitL b = splitL l) := by
        have := HW.out
        rw [split_cut a b hn] at this
        show _ = _
        simpa using this
      clear hn hq
      have hlen : (a ++ 10 :: b).length = a.length + 1 + b.length := by simp; omega
      have ht : (a ++ 10 :: b).take (a.length + 1) = a ++ [10] := by
        rw [show a ++ 10 :: b = (a ++ [10]) ++ b by simp, List.take_left' (by simp)]
      have hd : (a ++ 10 :: b).drop (a.length + 1) = b := by
        rw [show a ++ 10 :: b = (a ++ [10]) ++ b by simp, List.drop_left' (by simp)]
      generalize a ++ 10 :: b = r at *
      have i1 : 0 ≤ (a.length : Int) + 1 := by omega
      have i2 : (a.length : Int) + 1 ≤ (r.length : Int) := by omega
      have i3 : ((a.length : Int) + 1).toNat = a.length + 1 := by omega
      go_wp2_with fail
      refine (Tryz.strings_Index_one ⟨r.toArray⟩ 10 _).mono ?_
      rintro e w1 ⟨rfl, rfl⟩
      have hi2 : Lib.indexByte (⟨r.toArray⟩ : ByteArray).data.toList 10 = a.length := he
      rw [hi2]
      go_wp2_with (at_builtin; refine wpList_append_own _ rfl _ _ 23 rfl w.heap.size 9 i0 (.string ⟨#[]⟩) 1 16 Tryz.underlying23 hi hz0 hz1 hz2 rfl (by decide) _ _ _ rfl (hown.alloc _) ⟨w1.heap.size, 0, none⟩ 1 1 [.string ⟨(a ++ [10]).toArray⟩] rfl rfl (sp_cells _ _ _) (sp_one _) ?c3 ?c4 ?c5 ?_)
      case c3 => unfold maxLen; omega
      case c4 => omega
      case c5 => simp; omega
      intro v' w3 hown3 hgrow hfr
      have hbr3 := (hbr.alloc hbz (.cells #[.string ⟨(a ++ [10]).toArray⟩] 9)).grown hgrow (by simp; omega) (fun j hj => (hown.lt j hj).1)
      go_wp2
      go_roundw
      case rel => exact ⟨acc ++ [a ++ [10]], b, rfl, by rw [sc_snoc]; simpa using hown3, hbr3, by omega, HE.out⟩
      case measure => rw [sizeT_mk, sizeT_mk]; omega
def Clean (l : List UInt8) (p k : Nat) : Prop := ∀ c ∈ (l.drop p).take (k - p), c ≠ 10

theorem clean_refl (l : List UInt8) (k : Nat) : Clean l k k := by intro c hc; simp at hc
theorem clean_step {l : List UInt8} {p k : Nat} (h : Clean l p k) (hp : p ≤ k) (hk : k < l.length) (h10 : l[k] ≠ 10) : Clean l p (k + 1) := by
  intro c hc
  rw [show k + 1 - p = (k - p) + 1 by omega, List.take_succ_eq_append_getElem (by simp; omega)] at hc
  simp only [List.mem_append, List.mem_singleton] at hc
  rcases hc with hc | hc
  · exact h c hc
  · rw [hc]
    simpa [show p + (k - p) = k by omega] using h10
theorem clean_feed {l : List UInt8} {p k : Nat} (h : Clean l p k) (hp : p ≤ k) (hk : k < l.length) (h10 : l[k] = 10) : splitL (l.drop p) = (l.drop p).take (k + 1 - p) :: splitL (l.drop (k + 1)) := by
  have e : l.drop p = (l.drop p).take (k - p) ++ 10 :: l.drop (k + 1) := by
    have h1 := (List.take_append_drop (k - p) (l.drop p)).symm
    rw [List.drop_drop, show p + (k - p) = k by omega, List.drop_eq_getElem_cons hk, h10] at h1
    exact h1
  have e2 : (l.drop p).take (k + 1 - p) = (l.drop p).take (k - p) ++ [10] := by
    rw [show k + 1 - p = (k - p) + 1 by omega, List.take_succ_eq_append_getElem (by simp; omega)]
    simp [show p + (k - p) = k by omega, h10]
  rw [e2]
  conv => lhs; rw [e]
  exact split_cut _ _ h
theorem clean_end {l : List UInt8} {p : Nat} (h : Clean l p l.length) (hp : p < l.length) : splitL (l.drop p) = [l.drop p] := by
  refine split_one _ (fun c hc => h c ?_) (by intro e; have := congrArg List.length e; simp at this; omega)
  rw [List.take_of_length_le (by simp)]
  exact hc

set_option maxHeartbeats 2000000 in
theorem rSplit_f (l : List UInt8) (w : World) (hl : l.length ≤ 1099511627776) :
    Calls Tryz.prog 97 #[.string ⟨l.toArray⟩] w fun e w' => ∃ v, e = .returned v ∧ w'.ownsRow w.heap.size 9 1 v (splitL l).length (scells (splitL l)) ∧ Below w.heap.size w w' := by
  obtain ⟨i0, hi, hz0, hz1, hz2⟩ := info_parts infoStr
  go_enter Tryz.func97, Tryz.ntmps97
  go_wp2
  go_loopw [3, 4, 5] (fun acc ap i wr => ∃ (xs : List (List UInt8)) (p k : Nat), p ≤ k ∧ k ≤ l.length ∧ ap = .int .i64 p ∧ i = .int .i64 k ∧ wr.ownsRow w.heap.size 9 1 acc xs.length (scells xs) ∧ Below w.heap.size w wr ∧ Hid (Clean l p k) ∧ Hid (xs ++ splitL (l.drop p) = splitL l)) (fun _ _ i _ => l.length - (intOf i).toNat)
  case atStart => exact ⟨[], 0, 0, Nat.le_refl _, Nat.zero_le _, rfl, rfl, World.ownsRow_nil _ _ _ _, Below.refl _ _, clean_refl _ _, rfl⟩
  case round =>
    obtain ⟨acc, p, k, hp, hk, rfl, rfl, hown, hbr, HC, HW⟩ := hrel
    have hacc := acc_le HW.out
    have hbz := hbr.size
    obtain ⟨ao, cap, rfl⟩ := (holds_of hown).form
    by_cases hlt : k < l.length
    · by_cases h10 : l[k] = 10
      · have hb := (sp_is10 h10).1
        have HE : Hid (acc ++ [(l.drop p).take (k + 1 - p)] ++ splitL (l.drop (k + 1)) = splitL l) := by
          have := HW.out
          rw [clean_feed HC.out hp hlt h10] at this
          show _ = _
          simpa using this
        clear h10
        go_wp2_with (at_builtin; refine wpList_append_own _ rfl _ _ 23 rfl w.heap.size 9 i0 (.string ⟨#[]⟩) 1 16 Tryz.underlying23 hi hz0 hz1 hz2 rfl (by decide) _ _ _ rfl (hown.alloc _) ⟨wr.heap.size, 0, none⟩ 1 1 [.string ⟨((l.drop p).take (k + 1 - p)).toArray⟩] rfl rfl (sp_cells _ _ _) (sp_one _) ?c3 ?c4 ?c5 ?_)
        case c3 => unfold maxLen; omega
        case c4 => omega
        case c5 => simp; omega
        intro v' w3 hown3 hgrow hfr
        have hbr3 := (hbr.alloc hbz (.cells #[.string ⟨((l.drop p).take (k + 1 - p)).toArray⟩] 9)).grown hgrow (by simp; omega) (fun j hj => (hown.lt j hj).1)
        go_wp2
        go_roundw
        case rel => exact ⟨acc ++ [(l.drop p).take (k + 1 - p)], k + 1, k + 1, Nat.le_refl _, by omega, by go_num, by go_num, by rw [sc_snoc]; simpa using hown3, hbr3, clean_refl _ _, HE.out⟩
        case measure => simp [intOf]; omega
      · have hb := (sp_not10 h10).1
        have HD : Hid (Clean l p (k + 1)) := clean_step HC.out hp hlt h10
        clear h10
        go_wp2
        go_roundw
        case rel => exact ⟨acc, p, k + 1, by omega, by omega, rfl, by go_num, hown, hbr, HD, HW⟩
        case measure => simp [intOf]; omega
    · have hke : k = l.length := by omega
      subst hke
      by_cases hpl : p < l.length
      · have HE : Hid (splitL l = acc ++ [(l.drop p).take (l.length - p)]) := by
          have := HW.out
          rw [clean_end HC.out hpl] at this
          show _ = _
          rw [List.take_of_length_le (by simp)]
          exact this.symm
        go_wp2_with (at_builtin; refine wpList_append_own _ rfl _ _ 23 rfl w.heap.size 9 i0 (.string ⟨#[]⟩) 1 16 Tryz.underlying23 hi hz0 hz1 hz2 rfl (by decide) _ _ _ rfl (hown.alloc _) ⟨wr.heap.size, 0, none⟩ 1 1 [.string ⟨((l.drop p).take (l.length - p)).toArray⟩] rfl rfl (sp_cells _ _ _) (sp_one _) ?c3 ?c4 ?c5 ?_)
        case c3 => unfold maxLen; omega
        case c4 => omega
        case c5 => simp; omega
        intro v' w3 hown3 hgrow hfr
        have hbr3 := (hbr.alloc hbz (.cells #[.string ⟨((l.drop p).take (l.length - p)).toArray⟩] 9)).grown hgrow (by simp; omega) (fun j hj => (hown.lt j hj).1)
        go_wp2
        go_ret
        rw [HE.out, sc_snoc]
        exact ⟨_, rfl, by simpa using hown3, hbr3⟩
      · have HE : Hid (splitL l = acc) := by
          have := HW.out
          rw [List.drop_of_length_le (by omega)] at this
          show _ = _
          simpa [splitL] using this.symm
        go_wp2
        go_ret
        rw [HE.out]
        exact ⟨_, rfl, hown, hbr⟩
end Go.Proofs.YtgiojkhmkeocfaaGreatDoor

/- The code's Parse of layer 15: the patches that are found, in memory. -/
set_option maxRecDepth 20000
namespace Go.Proofs.YtgiojkhmkeocfaaGreatDoor
open Go.RowKit

theorem infoPx : (Tryz.prog.info? 55).map (fun i => (i.zero, i.size, i.bytes)) = some (some (.agg #[.string ⟨#[]⟩, .string ⟨#[]⟩, .slice none 0 0]), 3, 56) := by kernel_rfl
/-- a patch, the row of its hunks, the hunks with their rows -/
structure Pfd where
  x : Pth
  v : Value
  hs : List (Hk × Value)
def pxC (f : Pfd) : List Value := [.string ⟨f.x.old.toArray⟩, .string ⟨f.x.new.toArray⟩, f.v]
def pxcells (F : List Pfd) : List Value := F.flatMap pxC
def pxO (f : Pfd) : Obj := .cells #[.string ⟨f.x.old.toArray⟩, .string ⟨f.x.new.toArray⟩, f.v] 55
/-- a patch's own rows -/
structure Pown (B : Nat) (u : World) (f : Pfd) : Prop where
  eq : f.x.hs = f.hs.map (·.1)
  own : u.ownsRow B 59 5 f.v f.hs.length (hkcells f.hs)
  ins : ∀ y ∈ f.hs, u.ownsRow B 103 2 y.2 y.1.ls.length (mkcells y.1.ls)
/-- what was found -/
structure Pw (w : World) (ov : Value) (F : List Pfd) (u : World) : Prop where
  low : Below w.heap.size w u
  own : u.ownsRow w.heap.size 55 3 ov F.length (pxcells F)
  ins : ∀ f ∈ F, Pown w.heap.size u f
theorem Pown.kept {B k : Nat} {u u' : World} {f : Pfd} (h : Pown B u f) (hg : u.grownBy u' (some k)) (h1 : f.v.ownBlock ≠ some k) (h2 : ∀ y ∈ f.hs, y.2.ownBlock ≠ some k) : Pown B u' f := ⟨h.eq, h.own.kept hg (.inr h1), fun y hy => (h.ins y hy).kept hg (.inr (h2 y hy))⟩
theorem Pown.keep {B : Nat} {u u' : World} {f : Pfd} (h : Pown B u f) (hb : Below u.heap.size u u') : Pown B u' f := ⟨h.eq, owns_keep h.own hb, fun y hy => owns_keep (h.ins y hy) hb⟩
/-- a box of a type that is none of the rows' -/
theorem Pown.box {B k : Nat} {u u' : World} {f : Pfd} {cs : Array Value} {t : TypeId} {fr : Nat × Nat} (h : Pown B u f) (hb : u.heap[k]? = some (.cells cs t fr)) (h1 : 59 ≠ t) (h2 : 103 ≠ t) (hg : u.grownBy u' (some k)) : Pown B u' f := h.kept hg (own_box2 h.own hb h1) (fun y hy => own_box2 (h.ins y hy) hb h2)
/-- a row of another type grows -/
theorem row_other {B : Nat} {u u' : World} {e e' : TypeId} {s s' : Nat} {v v' : Value} {n n' : Nat} {xs xs' : List Value} (h : u.ownsRow B e s v n xs) (ho : u.ownsRow B e' s' v' n' xs') (hne : e' ≠ e) (hg : u.grownBy u' v'.ownBlock) : u'.ownsRow B e s v n xs := by
  refine ⟨h.1, ?_⟩
  rcases h.2 with q | ⟨b, cap, cur, rfl, q2, q3, q4⟩
  · exact .inl q
  · refine .inr ⟨b, cap, cur, rfl, q2, ?_, q4⟩
    rw [hg.block b (Array.getElem?_eq_some_iff.1 q3).1 (fun e => own_box2 ho q3 hne e.symm)]
    exact q3
/-- Parse's own variables: what was found, what is wrong, the reader -/
structure RdP (w : World) (R : Nat) (L : List (List UInt8)) (vL ov : Value) (F : List Pfd) (p : Nat) (u : World) : Prop where
  pw : Pw w ov F u
  f0 : u.heap[w.heap.size]? = some (.cells #[ov] 48)
  f1 : u.heap[w.heap.size + 1]? = some (.cells #[.nilIface] 36)
  ck : Ck u R vL (p : Int)
  rl : w.heap.size + 1 < R
  ln : u.ownsRow w.heap.size 9 1 vL L.length (scells L)
section
variable {w u u' : World} {R : Nat} {L : List (List UInt8)} {vL ov : Value} {F : List Pfd} {p p' : Nat}
theorem RdP.c0 (h : RdP w R L vL ov F p u) : u.cell? ⟨w.heap.size, 0, none⟩ = some ov := by rw [Lib.cell_of_heap h.f0]; rfl
theorem RdP.keep (h : RdP w R L vL ov F p u) (hb : Below u.heap.size u u') : RdP w R L vL ov F p u' := ⟨⟨h.pw.low.trans (hb.mono h.pw.low.size), owns_keep h.pw.own hb, fun f hf => (h.pw.ins f hf).keep hb⟩, (hb.block _ (Array.getElem?_eq_some_iff.1 h.f0).1).trans h.f0, (hb.block _ (Array.getElem?_eq_some_iff.1 h.f1).1).trans h.f1, h.ck.low hb, h.rl, owns_keep h.ln hb⟩
theorem RdP.call (h : RdP w R L vL ov F p u) (hg : u.grownBy u' (some R)) (q : Ck u' R vL (p' : Int)) : RdP w R L vL ov F p' u' := by
  have hk : ∀ k x, k ≠ R → u.heap[k]? = some x → u'.heap[k]? = some x := fun k _ hk hx => (hg.block k (Array.getElem?_eq_some_iff.1 hx).1 (fun e => hk (Option.some.inj e))).trans hx
  have hb : u.heap[R]? = some (.cells #[vL, .int .i64 (p : Int)] 105) := h.ck
  have hr := h.rl
  exact ⟨⟨h.pw.low.grown hg h.pw.low.size (fun k e => by cases e; omega), h.pw.own.kept hg (.inr (own_box2 h.pw.own hb (by decide))), fun f hf => (h.pw.ins f hf).box hb (by decide) (by decide) hg⟩, hk _ _ (by omega) h.f0, hk _ _ (by omega) h.f1, q, h.rl, h.ln.kept hg (.inr (own_box2 h.ln hb (by decide)))⟩
theorem RdP.lines (h : RdP w R L vL ov F p u) (hg : u.grownBy u' (some R)) : HS u' vL L := by
  have hb : u.heap[R]? = some (.cells #[vL, .int .i64 (p : Int)] 105) := h.ck
  exact holds_of (h.ln.kept hg (.inr (own_box2 h.ln hb (by decide))))
end
theorem one_px (w : World) (f : Pfd) : Holds (w.alloc (pxO f)) (.slice (some ⟨w.heap.size, 0, none⟩) 1 1) 1 (pxC f) := by
  refine .inr ⟨⟨w.heap.size, 0, none⟩, 1, rfl, Nat.le_refl _, ?_⟩
  intro j u hj
  have hb := heap_alloc_new w (pxO f)
  match j, hj with
  | 0, hj => rw [show ((⟨w.heap.size, 0, none⟩ : Addr).add 0) = ⟨w.heap.size, 0, none⟩ from rfl, Lib.cell_of_heap hb]; exact hj
  | 1, hj => rw [show ((⟨w.heap.size, 0, none⟩ : Addr).add 1) = ⟨w.heap.size, 1, none⟩ from rfl, Lib.cell_of_heap hb]; exact hj
  | 2, hj => rw [show ((⟨w.heap.size, 0, none⟩ : Addr).add 2) = ⟨w.heap.size, 2, none⟩ from rfl, Lib.cell_of_heap hb]; exact hj
  | n + 3, hj => simp [pxC] at hj
/-- patches ahead of what is left -/
def thenPs (l : List Pth) (X : Except (Nat × Int) (List Pth)) : Except (Nat × Int) (List Pth) :=
  match X with
  | .error e => .error e
  | .ok m => .ok (l ++ m)
/-- what Parse answers -/
def PrQ (w : World) (X : Except (Nat × Int) (List Pth)) (e : Ending) (w' : World) : Prop :=
  match X with
  | .error (a, z) => ∃ g, e = .returned (.tuple #[.slice none 0 0, .iface 86 (.pointer (some ⟨g, 0, none⟩))]) ∧ w'.heap[g]? = some (fltO (a : Int) z) ∧ Below w.heap.size w w'
  | .ok l => ∃ v' F, e = .returned (.tuple #[v', .nilIface]) ∧ Pw w v' F w' ∧ F.map (·.x) = l
end Go.Proofs.YtgiojkhmkeocfaaGreatDoor

/- The reference's side of layer 15 while its lines are read: its variable, the rows of kinds and lines, the reader. -/
set_option maxRecDepth 20000
namespace Go.Proofs.YtgiojkhmkeocfaaGreatDoor
open Go.RowKit

def bcs (ks : List UInt8) : List Value := ks.map fun c => .int .u8 (c.toNat : Int)
/-- a side's variable and its rows; all else, the reader aside, is as it was -/
structure Lx (w : World) (R X : Nat) (a p n : Int) (vk vl : Value) (ks : List UInt8) (ts : List (List UInt8)) (u : World) : Prop where
  os : u.os = w.os
  tape : u.tape = w.tape
  output : u.output = w.output
  size : w.heap.size ≤ u.heap.size
  block : ∀ k, k < w.heap.size → k ≠ R → k ≠ X → u.heap[k]? = w.heap[k]?
  box : Bp5 u X a p n vk vl
  ok : u.ownsRow w.heap.size 5 1 vk ks.length (bcs ks)
  ol : u.ownsRow w.heap.size 9 1 vl ts.length (scells ts)
section
variable {w u u' : World} {R X : Nat} {a p n : Int} {vk vl : Value} {ks : List UInt8} {ts : List (List UInt8)}
theorem Lx.low (h : Lx w R X a p n vk vl ks ts u) (hb : Below u.heap.size u u') : Lx w R X a p n vk vl ks ts u' :=
  ⟨hb.os.trans h.os, hb.tape.trans h.tape, hb.output.trans h.output, Nat.le_trans h.size hb.size, fun k h1 h2 h3 => (hb.block k (Nat.lt_of_lt_of_le h1 h.size)).trans (h.block k h1 h2 h3), h.box.low hb, owns_keep h.ok hb, owns_keep h.ol hb⟩
/-- the reader goes on -/
theorem Lx.call (h : Lx w R X a p n vk vl ks ts u) (hg : u.grownBy u' (some R)) (hR : R < w.heap.size) (hX : X ≠ R) : Lx w R X a p n vk vl ks ts u' :=
  ⟨hg.os.trans h.os, hg.tape.trans h.tape, hg.output.trans h.output, Nat.le_trans h.size hg.size, fun k h1 h2 h3 => (hg.block k (Nat.lt_of_lt_of_le h1 h.size) (fun e => h2 (Option.some.inj e))).trans (h.block k h1 h2 h3), h.box.off hg (fun e => hX (Option.some.inj e)), owns_fr h.ok hg hR, owns_fr h.ol hg hR⟩
end
/-- lines ahead of those that are left -/
def thenS (x : Sde) (Y : Except (Nat × Int) (Sde × Nat)) : Except (Nat × Int) (Sde × Nat) :=
  match Y with
  | .error e => .error e
  | .ok (l, p) => .ok (x ++ l, p)
/-- what the lines of a side leave behind -/
def LnQ5 (R : Nat) (vL : Value) (Z : Except (Nat × Int) (Sde × Nat)) (x : Sde) (w' : World) : Prop :=
  match Z with
  | .error e => RdZ w' R vL (.error e)
  | .ok (x0, p1) => x = x0 ∧ RdZ w' R vL (.ok p1)
end Go.Proofs.YtgiojkhmkeocfaaGreatDoor

/- The context form's hunk as the reference reads it; plain mathematics. -/
set_option maxRecDepth 20000
namespace Go.Proofs.YtgiojkhmkeocfaaGreatDoor
open Ln

/-- the state alone -/
def stP {α : Type} : Except (Nat × Int) (α × Nat) → Except (Nat × Int) Nat
  | .error e => .error e
  | .ok (_, p) => .ok p
end Go.Proofs.YtgiojkhmkeocfaaGreatDoor

/- The reference's lines with names of layer 15, read: walked. -/
set_option maxRecDepth 20000
namespace Go.Proofs.YtgiojkhmkeocfaaGreatDoor
open Go.RowKit Go.Proofs.YtgiojkhmkeocfaaGreatDoor.Tx
attribute [local go_sem] ByteArray.extract_mk no_at

/-- a line with a name -/
def nmZ (ah : List UInt8) (L : List (List UInt8)) : Except (Nat × Int) Nat → Except (Nat × Int) (List UInt8 × Nat)
  | .error e => .error e
  | .ok p => match namP ah p (L.drop p) with
    | .error e => .error e
    | .ok (n, _) => .ok (n, p + 1)
theorem nmZ_nx {ah : List UInt8} {L : List (List UInt8)} {st : Except (Nat × Int) Nat} : nmZ ah L st = match nxZ L st with
    | .error e => .error e
    | .ok (s, p1) => if ah.isPrefixOf s = true then (match namedP (s.drop 4) with
      | none => .error (p1, 253)
      | some n => .ok (n, p1)) else .error (p1, 3) := by
  cases st with
  | error e => rfl
  | ok p =>
    unfold nmZ nxZ namP
    dsimp only
    cases nxt p (L.drop p) with
    | error e => rfl
    | ok z =>
      obtain ⟨s, r⟩ := z
      dsimp only
      by_cases h : ah.isPrefixOf s = true
      · rw [if_pos h, if_pos h]
        cases namedP (s.drop 4) <;> rfl
      · rw [if_neg h, if_neg h]
end Go.Proofs.YtgiojkhmkeocfaaGreatDoor

/- The context form's patches as the reference reads them, by states; plain mathematics. -/
set_option maxRecDepth 20000
namespace Go.Proofs.YtgiojkhmkeocfaaGreatDoor
open Ln

end Go.Proofs.YtgiojkhmkeocfaaGreatDoor

/- Patches as the references of layers 15 and 16 read them, by states, for any way of reading a hunk; plain mathematics. -/
set_option maxRecDepth 20000
namespace Go.Proofs.YtgiojkhmkeocfaaGreatDoor
open Ln

abbrev HkF := Nat → List (List UInt8) → Nat → Except (Nat × Int) (Hk × Nat)
/-- the hunks of a patch -/
def gHs (G : HkF) (x : List UInt8) (L : List (List UInt8)) : Nat → Nat → Nat → Except (Nat × Int) (List Hk × Nat)
  | 0, _, p => .error (p + 1, 1)
  | f + 1, k, p => match G k L p with
    | .error e => .error e
    | .ok (h, p1) => if pkG x (L.drop p1) = true then (match gHs G x L f (k + 1) p1 with
        | .error e => .error e
        | .ok (l, p2) => .ok (h :: l, p2)) else .ok ([h], p1)
/-- hunks that were read, and those that are left -/
def gLf (G : HkF) (x : List UInt8) (L : List (List UInt8)) (l : List Hk) (f p : Nat) : Except (Nat × Int) (List Hk × Nat) :=
  if (decide (l = []) || pkG x (L.drop p)) = true then (match gHs G x L f l.length p with
    | .error e => .error e
    | .ok (m, p2) => .ok (l ++ m, p2)) else .ok (l, p)
theorem gLf_nil (G : HkF) (x : List UInt8) (L : List (List UInt8)) (f p : Nat) : gLf G x L [] f p = gHs G x L f 0 p := by
  unfold gLf
  rw [if_pos (by simp), List.length_nil]
  cases gHs G x L f 0 p with
  | error e => rfl
  | ok z => rfl
theorem gLf_no {G : HkF} {x : List UInt8} {L : List (List UInt8)} {l : List Hk} {p : Nat} (h : (decide (l = []) || pkG x (L.drop p)) = false) (f : Nat) : gLf G x L l f p = .ok (l, p) := by
  unfold gLf
  rw [if_neg (by rw [h]; decide)]
theorem gLf_go {G : HkF} {x : List UInt8} {L : List (List UInt8)} {l : List Hk} {p : Nat} (h : (decide (l = []) || pkG x (L.drop p)) = true) (f : Nat) : gLf G x L l (f + 1) p = match G l.length L p with
    | .error e => .error e
    | .ok (y, p1) => gLf G x L (l ++ [y]) f p1 := by
  unfold gLf
  rw [if_pos h]
  simp only [gHs]
  cases G l.length L p with
  | error e => rfl
  | ok z =>
    obtain ⟨y, p1⟩ := z
    dsimp only
    have e1 : (decide (l ++ [y] = []) || pkG x (L.drop p1)) = pkG x (L.drop p1) := by simp
    have e2 : (l ++ [y]).length = l.length + 1 := by simp
    rw [e1, e2]
    by_cases h2 : pkG x (L.drop p1) = true
    · rw [if_pos h2, if_pos h2]
      cases gHs G x L f (l.length + 1) p1 with
      | error e => rfl
      | ok z => simp
    · rw [if_neg h2, if_neg h2]
/-- what is left of a patch at its hunks -/
def gIn (n1 n2 : List UInt8) (Y : Except (Nat × Int) (List Hk × Nat)) : Except (Nat × Int) (Pth × Nat) := match Y with
  | .error e => .error e
  | .ok (hs, p3) => .ok (⟨n1, n2, hs⟩, p3)
/-- a patch -/
def gPa (G : HkF) (x a1 a2 : List UInt8) (L : List (List UInt8)) (k p : Nat) : Except (Nat × Int) (Pth × Nat) := match nmZ a1 L (.ok p) with
    | .error e => .error e
    | .ok (n1, p1) => if 64 ≤ k then .error (p1, 9) else match nmZ a2 L (.ok p1) with
      | .error e => .error e
      | .ok (n2, p2) => gIn n1 n2 (gHs G x L ((L.drop p2).length + 1) 0 p2)
/-- all patches -/
def gPs (G : HkF) (x a1 a2 : List UInt8) (L : List (List UInt8)) : Nat → Nat → Nat → Except (Nat × Int) (List Pth)
  | 0, _, _ => .ok []
  | f + 1, k, p => if L.length ≤ p then .ok [] else match gPa G x a1 a2 L k p with
    | .error e => .error e
    | .ok (y, p3) => match gPs G x a1 a2 L f (k + 1) p3 with
      | .error e => .error e
      | .ok l => .ok (y :: l)
/-- how far a hunk's reader goes -/
def GOk (G : HkF) (L : List (List UInt8)) : Prop := ∀ k p h p1, G k L p = .ok (h, p1) → p < p1 ∧ p1 ≤ L.length
theorem nmZ_ok {ah : List UInt8} {L : List (List UInt8)} {p p1 : Nat} {n : List UInt8} (h : nmZ ah L (.ok p) = .ok (n, p1)) : p1 = p + 1 ∧ p < L.length := by
  unfold nmZ at h
  dsimp only at h
  cases h1 : namP ah p (L.drop p) with
  | error e => rw [h1] at h; cases h
  | ok z =>
    obtain ⟨n1, r1⟩ := z
    obtain ⟨_, h2⟩ := nam_drop h1
    rw [h1] at h
    cases h
    exact ⟨rfl, h2⟩
theorem gHs_ok {G : HkF} {x : List UInt8} {L : List (List UInt8)} (hG : GOk G L) (f : Nat) : ∀ {k p p1 : Nat} {hs : List Hk}, gHs G x L f k p = .ok (hs, p1) → p < p1 ∧ p1 ≤ L.length := by
  induction f with
  | zero => intro k p p1 hs h; cases h
  | succ f ih =>
    intro k p p1 hs h
    simp only [gHs] at h
    cases h1 : G k L p with
    | error e => rw [h1] at h; cases h
    | ok z =>
      obtain ⟨y, p2⟩ := z
      have h2 := hG _ _ _ _ h1
      rw [h1] at h
      dsimp only at h
      split at h
      · cases h3 : gHs G x L f (k + 1) p2 with
        | error e => rw [h3] at h; cases h
        | ok z =>
          obtain ⟨l, p3⟩ := z
          have h4 := ih h3
          rw [h3] at h
          cases h
          omega
      · cases h
        exact h2
theorem gPa_ok {G : HkF} {x a1 a2 : List UInt8} {L : List (List UInt8)} (hG : GOk G L) {k p p3 : Nat} {y : Pth} (h : gPa G x a1 a2 L k p = .ok (y, p3)) : p < p3 ∧ p3 ≤ L.length ∧ k < 64 := by
  unfold gPa at h
  cases h1 : nmZ a1 L (.ok p) with
  | error e => rw [h1] at h; cases h
  | ok z =>
    obtain ⟨n1, p1⟩ := z
    obtain ⟨rfl, _⟩ := nmZ_ok h1
    rw [h1] at h
    dsimp only at h
    split at h
    · cases h
    · cases h2 : nmZ a2 L (.ok (p + 1)) with
      | error e => rw [h2] at h; cases h
      | ok z =>
        obtain ⟨n2, p2⟩ := z
        obtain ⟨rfl, _⟩ := nmZ_ok h2
        rw [h2] at h
        dsimp only at h
        cases h3 : gHs G x L ((L.drop (p + 1 + 1)).length + 1) 0 (p + 1 + 1) with
        | error e => rw [h3] at h; cases h
        | ok z =>
          obtain ⟨hs, p4⟩ := z
          have h4 := gHs_ok hG _ h3
          rw [h3] at h
          cases h
          omega
theorem gPs_end {G : HkF} {x a1 a2 : List UInt8} {L : List (List UInt8)} {p : Nat} (h : L.length ≤ p) (f k : Nat) (l : List Pth) : thenPs l (gPs G x a1 a2 L f k p) = .ok l := by
  cases f with
  | zero => simp [gPs, thenPs]
  | succ f => simp [gPs, thenPs, h]
theorem gPs_go {G : HkF} {x a1 a2 : List UInt8} {L : List (List UInt8)} {p : Nat} (h : p < L.length) (f k : Nat) (l : List Pth) : thenPs l (gPs G x a1 a2 L (f + 1) k p) = match gPa G x a1 a2 L k p with
    | .error e => .error e
    | .ok (y, p3) => thenPs (l ++ [y]) (gPs G x a1 a2 L f (k + 1) p3) := by
  simp only [gPs]
  rw [if_neg (by omega)]
  cases gPa G x a1 a2 L k p with
  | error e => rfl
  | ok z =>
    obtain ⟨y, p3⟩ := z
    dsimp only
    cases gPs G x a1 a2 L f (k + 1) p3 with
    | error e => rfl
    | ok l => simp [thenPs]

/- layer 15 -/
end Go.Proofs.YtgiojkhmkeocfaaGreatDoor

/- The code's Parse of layer 15, walked: the patches of a text, or what was thrown. -/
set_option maxRecDepth 20000
namespace Go.Proofs.YtgiojkhmkeocfaaGreatDoor
open Go.RowKit
open Ln

theorem mem_flatC (l : List (List UInt8)) : ∀ s ∈ l, s.length ≤ l.flatten.length := by
  induction l with
  | nil => intro s hs; cases hs
  | cons a l ih =>
    intro s hs
    rw [List.flatten_cons, List.length_append]
    rcases List.mem_cons.1 hs with rfl | h
    · omega
    · have := ih s h
      omega
theorem split_shortC {t : List UInt8} {M : Nat} (h : t.length ≤ M) : ∀ s ∈ Ln.splitL t, s.length ≤ M := by
  intro s hs
  have h1 := congrArg List.length (Ln.split_join t)
  have h2 := mem_flatC _ s hs
  omega
theorem load_pxs {u : World} {a : Addr} {o : Option Addr} {n c : Nat} (h : u.cell? a = some (.slice o n c)) {op : Oper} (x : Operand) (ho : op.op = .load 48 x) {ev : Operand → Value} (hx : ev x = .pointer (some a)) :
    (execOp ev op).run Tryz.prog u = .ok (.value (.slice o n c)) u := by
  simp only [execOp, ho, hx]
  go_simp
theorem exec_storePx {u : World} {a : Addr} {v0 : Value} (hc : u.cell? a = some v0) (hf : u.frozen? a = false) {o : Option Addr} {n c : Nat} {op : Oper} (x y : Operand) (ho : op.op = .store 48 x y) {ev : Operand → Value} (hx : ev x = .pointer (some a)) (hy : ev y = .slice o n c) :
    (execOp ev op).run Tryz.prog u = .ok .skip (u.setCell a (.slice o n c)) := by
  simp only [execOp, ho, hx, hy]
  go_simp
/-- what is left behind by what is thrown -/
def PnP (w : World) (X : Except (Nat × Int) (List Pth)) (c : List PanicEntry) (u : World) : Prop :=
  ∃ (g a : Nat) (z : Int) (v0 : Value), c = [{ v := .iface 86 (.pointer (some ⟨g, 0, none⟩)), recovered := false }] ∧ u.heap[g]? = some (fltO (a : Int) z) ∧ X = .error (a, z) ∧ Below w.heap.size w u ∧ u.heap[w.heap.size]? = some (.cells #[v0] 48) ∧ u.heap[w.heap.size + 1]? = some (.cells #[.nilIface] 36)
end Go.Proofs.YtgiojkhmkeocfaaGreatDoor

/- The reference's Same of layer 11, walked for any two hunks. -/
set_option maxRecDepth 20000
namespace Go.Proofs.YtgiojkhmkeocfaaGreatDoor
open Go.RowKit

/-- rows of hunks that are few enough -/
def HOw (p : List (Hk × Value)) : Prop := p.length ≤ 1099511627776 ∧ ∀ x ∈ p, x.1.ls.length ≤ 1099511627776
theorem hk_ext {A1 N1 B1 M1 A2 N2 B2 M2 : Int} {l1 l2 : List Mk} : (⟨A1, N1, B1, M1, l1⟩ : Hk) = ⟨A2, N2, B2, M2, l2⟩ ↔ A1 = A2 ∧ N1 = N2 ∧ B1 = B2 ∧ M1 = M2 ∧ l1 = l2 := by
  constructor
  · rintro h
    cases h
    exact ⟨rfl, rfl, rfl, rfl, rfl⟩
  · rintro ⟨rfl, rfl, rfl, rfl, rfl⟩
    rfl
set_option maxHeartbeats 8000000 in
theorem rSameG_f (h1 h2 : Hk) (v1 v2 : Value) (w : World) (hv1 : HMk w v1 h1.ls) (hv2 : HMk w v2 h2.ls) (hl1 : h1.ls.length ≤ 1099511627776) (r : Bool) (HR : Hid (r = true ↔ h1 = h2)) : Calls Tryz.prog 46 #[hkV h1 v1, hkV h2 v2] w fun e w' => e = .returned (.bool r) ∧ Below w.heap.size w w' := by
  obtain ⟨A1, N1, B1, M1, l1⟩ := h1
  obtain ⟨A2, N2, B2, M2, l2⟩ := h2
  dsimp only at hv1 hv2 hl1
  obtain ⟨o1, c1, rfl⟩ := HMk.form hv1
  obtain ⟨o2, c2, rfl⟩ := HMk.form hv2
  have hx1 := Hx.new w ⟨A1, N1, B1, M1, l1⟩ (.slice o1 l1.length c1)
  have hB1 : Below w.heap.size w (w.alloc (hkO ⟨A1, N1, B1, M1, l1⟩ (.slice o1 l1.length c1))) := (Below.refl _ w).alloc (Nat.le_refl _) _
  have hx2 : Hx ((w.alloc (hkO ⟨A1, N1, B1, M1, l1⟩ (.slice o1 l1.length c1))).alloc (hkO ⟨A2, N2, B2, M2, l2⟩ (.slice o2 l2.length c2))) (w.heap.size + 1) ⟨A2, N2, B2, M2, l2⟩ (.slice o2 l2.length c2) := alloc_second w _ _
  have hB2 : Below w.heap.size w ((w.alloc (hkO ⟨A1, N1, B1, M1, l1⟩ (.slice o1 l1.length c1))).alloc (hkO ⟨A2, N2, B2, M2, l2⟩ (.slice o2 l2.length c2))) := hB1.alloc (by simp) _
  have hx1' := hx1.low ((Below.refl _ (w.alloc (hkO ⟨A1, N1, B1, M1, l1⟩ (.slice o1 l1.length c1)))).alloc (Nat.le_refl _) (hkO ⟨A2, N2, B2, M2, l2⟩ (.slice o2 l2.length c2)))
  have hm1 := HMk.keep hv1 hB2 (Nat.le_refl _)
  have hm2 := HMk.keep hv2 hB2 (Nat.le_refl _)
  obtain ⟨x0, x1, x2, x3, x4⟩ := hx1'.cells
  obtain ⟨y0, y1, y2, y3, y4⟩ := hx2.cells
  unfold hkV
  dsimp only at x0 x1 x2 x3 x4 y0 y1 y2 y3 y4 ⊢
  have hW0 : (w.alloc (hkO ⟨A1, N1, B1, M1, l1⟩ (.slice o1 l1.length c1))).alloc (hkO ⟨A2, N2, B2, M2, l2⟩ (.slice o2 l2.length c2)) = (w.alloc (Obj.cells #[Value.int IntKind.i64 A1, Value.int IntKind.i64 N1, Value.int IntKind.i64 B1, Value.int IntKind.i64 M1, .slice o1 l1.length c1] 59)).alloc (Obj.cells #[Value.int IntKind.i64 A2, Value.int IntKind.i64 N2, Value.int IntKind.i64 B2, Value.int IntKind.i64 M2, .slice o2 l2.length c2] 59) := rfl
  clear hx1 hx2 hx1' hB1 hv1 hv2
  generalize (w.alloc (hkO ⟨A1, N1, B1, M1, l1⟩ (.slice o1 l1.length c1))).alloc (hkO ⟨A2, N2, B2, M2, l2⟩ (.slice o2 l2.length c2)) = W at *
  have hW := hW0.symm
  clear hW0
  have HN : Hid (¬ (A1 = A2 ∧ N1 = N2 ∧ B1 = B2 ∧ M1 = M2 ∧ l1.length = l2.length) → r = false) := (by
    intro h
    cases hr : r with
    | false => rfl
    | true => exact absurd (hk_ext.1 (HR.out.1 hr)) (fun e => h ⟨e.1, e.2.1, e.2.2.1, e.2.2.2.1, congrArg List.length e.2.2.2.2⟩))
  have HR2 : Hid (A1 = A2 ∧ N1 = N2 ∧ B1 = B2 ∧ M1 = M2 → (r = true ↔ l1 = l2)) := (by
    rintro ⟨rfl, rfl, rfl, rfl⟩
    rw [HR.out, hk_ext]
    simp)
  clear HR
  go_enter Tryz.func46, Tryz.ntmps46
  by_cases hA : A1 = A2
  · by_cases hN : N1 = N2
    · by_cases hB : B1 = B2
      · by_cases hM : M1 = M2
        · have HR3 : Hid (r = true ↔ l1 = l2) := HR2.out ⟨hA, hN, hB, hM⟩
          clear HR2
          subst hA hN hB hM
          by_cases hL : l1.length = l2.length
          · rw [← hL] at y4 hm2 hW ⊢
            have HL : Hid (l1.length = l2.length) := hL
            clear hL HN
            go_wp2
            clear hW
            go_loopw [5] (fun iv wr => ∃ k m : Nat, k ≤ l1.length ∧ iv = .int .i64 (k : Int) ∧ wr = W.drewN m ∧ Hid (r = true ↔ l1.drop k = l2.drop k)) (fun iv _ => l1.length - (intOf iv).toNat)
            case atStart => exact ⟨0, 0, Nat.zero_le _, by go_num, rfl, HR3⟩
            case round =>
              clear HR3
              obtain ⟨k, m, hk, rfl, rfl, HD⟩ := hrel
              have x4' : (W.drewN m).cell? ⟨w.heap.size, 4, none⟩ = some (.slice o1 l1.length c1) := x4
              have y4' : (W.drewN m).cell? ⟨w.heap.size + 1, 4, none⟩ = some (.slice o2 l1.length c2) := y4
              by_cases hlt : k < l1.length
              · have hlt2 : k < l2.length := by have := HL.out; omega
                obtain ⟨b1, f1, rfl, _, hc1⟩ := HMk.at hm1 (by omega)
                obtain ⟨b2, f2, rfl, _, hc2⟩ := HMk.at hm2 (by omega)
                obtain ⟨s0, s1⟩ := hc1 k hlt
                obtain ⟨t0, t1⟩ := hc2 k hlt2
                have hD := HD.out
                rw [List.drop_eq_getElem_cons hlt, List.drop_eq_getElem_cons hlt2, List.cons.injEq] at hD
                obtain ⟨q, hq⟩ : ∃ q, l1[k] = q := ⟨_, rfl⟩
                obtain ⟨p, hp⟩ : ∃ p, l2[k] = p := ⟨_, rfl⟩
                rw [hq] at s0 s1 hD
                rw [hp] at t0 t1 hD
                obtain ⟨sg, tx⟩ := q
                obtain ⟨sg2, tx2⟩ := p
                dsimp only at s0 s1 t0 t1
                have HD2 : Hid (r = true ↔ (⟨sg, tx⟩ : Mk) = ⟨sg2, tx2⟩ ∧ l1.drop (k + 1) = l2.drop (k + 1)) := hD
                clear hc1 hc2 hq hp hD HD
                have i1 : 0 ≤ (k : Int) := by omega
                have i2 : (k : Int) < (l1.length : Int) := by omega
                by_cases hs : sg = sg2
                · subst hs
                  by_cases ht : tx = tx2
                  · subst ht
                    have HD3 : Hid (r = true ↔ l1.drop (k + 1) = l2.drop (k + 1)) := (by show _ ↔ _; rw [HD2.out]; simp)
                    clear HD2
                    go_wp2_with fail
                    go_quiet (fail)
                    go_wp2
                    go_roundw
                    case rel => exact ⟨k + 1, _, by omega, by go_num, rfl, HD3⟩
                    case measure => simp [intOf]; omega
                  · have r0 : r = false := (by
                      cases hr : r with
                      | false => rfl
                      | true => exact absurd (HD2.out.1 hr).1 (fun e => ht (by cases e; rfl)))
                    subst r0
                    have e2 : (tx == tx2) = false := beq_eq_false_iff_ne.2 ht
                    clear HD2
                    go_wp2_with fail
                    go_quiet (fail)
                    go_wp2
                    go_ret
                    exact ⟨rfl, Below.dN (Below.dN hB2 _) _⟩
                · have r0 : r = false := (by
                    cases hr : r with
                    | false => rfl
                    | true => exact absurd (HD2.out.1 hr).1 (fun e => hs (by cases e; rfl)))
                  subst r0
                  have e1 : (sg == sg2) = false := beq_eq_false_iff_ne.2 hs
                  clear HD2
                  go_wp2_with fail
                  go_quiet (fail)
                  go_wp2
                  go_ret
                  exact ⟨rfl, Below.dN (Below.dN hB2 _) _⟩
              · have hend : decide ((k : Int) < (l1.length : Int)) = false := decide_eq_false (by omega)
                have r1 : r = true := HD.out.2 (by rw [List.drop_eq_nil_of_le (by omega), List.drop_eq_nil_of_le (by have := HL.out; omega)])
                subst r1
                go_wp2
                go_ret
                exact ⟨rfl, Below.dN hB2 _⟩
          · have r0 := HN.out (fun e => hL e.2.2.2.2)
            subst r0
            have e5 : ((l1.length : Int) == (l2.length : Int)) = false := beq_eq_false_iff_ne.2 (by omega)
            go_wp2
            go_ret
            exact ⟨rfl, hB2⟩
        · have r0 := HN.out (fun e => hM e.2.2.2.1)
          subst hA hN hB r0
          have e4 : (M1 == M2) = false := beq_eq_false_iff_ne.2 hM
          go_wp2
          go_ret
          exact ⟨rfl, hB2⟩
      · have r0 := HN.out (fun e => hB e.2.2.1)
        subst hA hN r0
        have e3 : (B1 == B2) = false := beq_eq_false_iff_ne.2 hB
        go_wp2
        go_ret
        exact ⟨rfl, hB2⟩
    · have r0 := HN.out (fun e => hN e.2.1)
      subst hA r0
      have e2 : (N1 == N2) = false := beq_eq_false_iff_ne.2 hN
      go_wp2
      go_ret
      exact ⟨rfl, hB2⟩
  · have r0 := HN.out (fun e => hA e.1)
    subst r0
    have e1 : (A1 == A2) = false := beq_eq_false_iff_ne.2 hA
    go_wp2
    go_ret
    exact ⟨rfl, hB2⟩
theorem hsameG_held {h1 h2 : Hk} {v1 v2 : Value} {W u : World} {r : Bool} (hv1 : HMk W v1 h1.ls) (hv2 : HMk W v2 h2.ls) (hl : h1.ls.length ≤ 1099511627776) (HR : Hid (r = true ↔ h1 = h2)) (hL : Low W u) : Calls Tryz.prog 46 (#[hkV h1 v1, hkV h2 v2] ++ #[]) u fun e w' => ∃ x, e = .returned x ∧ Low W w' ∧ x = .bool r := by
  refine (rSameG_f h1 h2 v1 v2 u (HMk.keep hv1 hL (Nat.le_refl _)) (HMk.keep hv2 hL (Nat.le_refl _)) hl r HR).mono ?_
  rintro e w' ⟨rfl, hB⟩
  exact ⟨_, rfl, hL.trans (hB.mono hL.size), rfl⟩
set_option maxRecDepth 10000 in
set_option maxHeartbeats 4000000 in
theorem rSameHunksG_f (p1 p2 : List (Hk × Value)) (v1 v2 : Value) (w : World) (hv1 : HHp w v1 p1) (hv2 : HHp w v2 p2) (hok : HOw p1) (r : Bool) (HR : Hid (r = true ↔ p1.map (·.1) = p2.map (·.1))) : Calls Tryz.prog 18 #[v1, v2] w fun e w' => e = .returned (.bool r) ∧ Below w.heap.size w w' := by
  obtain ⟨o1, c1, rfl⟩ := Holds.form hv1.row
  obtain ⟨o2, c2, rfl⟩ := Holds.form hv2.row
  have hpl : p1.length ≤ 1099511627776 := hok.1
  have HOK : Hid (HOw p1) := hok
  clear hok
  by_cases hl12 : p2.length = p1.length
  · have HL : Hid (p2.length = p1.length) := hl12
    rw [hl12] at hv2 ⊢
    clear hl12
    go_enter Tryz.func18, Tryz.ntmps18
    go_wp2
    go_loopw [5] (fun iv wr => ∃ k : Nat, k ≤ p1.length ∧ iv = .int .i64 (k : Int) ∧ Below w.heap.size w wr ∧ Hid (r = true ↔ (p1.map (·.1)).drop k = (p2.map (·.1)).drop k)) (fun iv _ => p1.length - (intOf iv).toNat)
    case atStart => exact ⟨0, Nat.zero_le _, by go_num, Below.refl _ _, HR⟩
    case round =>
      clear HR
      obtain ⟨k, hk, rfl, hB, HD⟩ := hrel
      by_cases hlt : k < p1.length
      · obtain ⟨b1, f1, rfl, _, _⟩ := hv1.at (by omega)
        obtain ⟨b2, f2, rfl, _, _⟩ := hv2.at (by have := HL.out; omega)
        obtain ⟨x, y, hxy⟩ : ∃ x y, p1[k] = (x, y) := ⟨_, _, rfl⟩
        obtain ⟨x', z, hxz⟩ : ∃ x z, p2[k]'(by have := HL.out; omega) = (x, z) := ⟨_, _, rfl⟩
        have hD := HD.out
        have hlt2 : k < p2.length := (by have := HL.out; omega)
        rw [List.drop_eq_getElem_cons (show k < (p1.map (·.1)).length by simpa using hlt), List.drop_eq_getElem_cons (show k < (p2.map (·.1)).length by simpa using hlt2), List.cons.injEq, List.getElem_map, List.getElem_map, hxy, hxz] at hD
        dsimp only at hD
        obtain ⟨r2, HR2⟩ : ∃ r2 : Bool, Hid (r2 = true ↔ x = x') := (by
          rcases Classical.em (x = x') with h | h
          · exact ⟨true, ⟨fun _ => h, fun _ => rfl⟩⟩
          · exact ⟨false, ⟨fun e => absurd e (by simp), fun e => absurd e h⟩⟩)
        have HD2 : Hid (r = true ↔ x = x' ∧ (p1.map (·.1)).drop (k + 1) = (p2.map (·.1)).drop (k + 1)) := hD
        clear hD HD
        obtain ⟨r1, hm1⟩ := hv1.take hB k hlt hxy
        obtain ⟨r2, hm2⟩ := hv2.take hB k (by have := HL.out; omega) hxz
        have hbd := HOK.out.2 _ (List.getElem_mem hlt)
        rw [hxy] at hbd
        dsimp only at hbd
        obtain ⟨yo, yc, rfl⟩ := hm1.form
        obtain ⟨zo, zc, rfl⟩ := hm2.form
        have hr1 : ∀ u : World, Low wr u → HkAt u b1 (f1 + k * 5) x (.slice yo x.ls.length yc) := fun u hu => HkAt.low r1 hu
        have hr2 : ∀ u : World, Low wr u → HkAt u b2 (f2 + k * 5) x' (.slice zo x'.ls.length zc) := fun u hu => HkAt.low r2 hu
        have i1 : 0 ≤ (k : Int) := by omega
        have i2 : (k : Int) < (p1.length : Int) := by omega
        clear hxy hxz r1 r2
        go_wp2_with fail
        refine wp_region_noPanic ?_
        refine wp_region_held_drew (S := fun u => Low wr u) (by kernel_rfl) (Below.dN (Below.refl _ wr) 1) (fun hHeld => ?_)
        refine go_take 0 17 _ (.slice (some ⟨b1, f1, none⟩) p1.length c1) rfl (by kernel_rfl) (by kernel_rfl) (by kernel_rfl) (by kernel_rfl) (fun _ _ _ h => h) (Or.inl ⟨by kernel_rfl, fun u hu => by kernel_rfl⟩) hHeld ?_
        simp only [Act.put, List.setIfInBounds_toArray, List.set_cons_zero, List.set_cons_succ]
        refine go_take 1 18 _ (.int .i64 (k : Int)) rfl (by kernel_rfl) (by kernel_rfl) (by kernel_rfl) (by kernel_rfl) (fun _ _ _ h => h) (Or.inl ⟨by kernel_rfl, fun u hu => by kernel_rfl⟩) hHeld ?_
        simp only [Act.put, List.setIfInBounds_toArray, List.set_cons_zero, List.set_cons_succ]
        refine go_take 2 19 _ (.pointer (some ⟨b1, f1 + k * 5, none⟩)) rfl (by kernel_rfl) (by kernel_rfl) (by kernel_rfl) (by kernel_rfl) (fun _ _ _ h => h) (Or.inl ⟨by kernel_rfl, fun u hu => exec_ixH (c := c1) hlt (.tmp 17) (.tmp 18) (by kernel_rfl) (by kernel_rfl) (by kernel_rfl)⟩) hHeld ?_
        simp only [Act.put, List.setIfInBounds_toArray, List.set_cons_zero, List.set_cons_succ]
        refine go_take 3 20 _ (hkV x (.slice yo x.ls.length yc)) rfl (by kernel_rfl) (by kernel_rfl) (by kernel_rfl) (by kernel_rfl) (fun _ _ _ h => h) (Or.inl ⟨by kernel_rfl, fun u hu => load_hkR (hr1 u hu) (.tmp 19) (by kernel_rfl) (by kernel_rfl)⟩) hHeld ?_
        simp only [Act.put, List.setIfInBounds_toArray, List.set_cons_zero, List.set_cons_succ]
        refine go_take 4 21 _ (.slice (some ⟨b2, f2, none⟩) p1.length c2) rfl (by kernel_rfl) (by kernel_rfl) (by kernel_rfl) (by kernel_rfl) (fun _ _ _ h => h) (Or.inl ⟨by kernel_rfl, fun u hu => by kernel_rfl⟩) hHeld ?_
        simp only [Act.put, List.setIfInBounds_toArray, List.set_cons_zero, List.set_cons_succ]
        refine go_take 5 22 _ (.int .i64 (k : Int)) rfl (by kernel_rfl) (by kernel_rfl) (by kernel_rfl) (by kernel_rfl) (fun _ _ _ h => h) (Or.inl ⟨by kernel_rfl, fun u hu => by kernel_rfl⟩) hHeld ?_
        simp only [Act.put, List.setIfInBounds_toArray, List.set_cons_zero, List.set_cons_succ]
        refine go_take 6 23 _ (.pointer (some ⟨b2, f2 + k * 5, none⟩)) rfl (by kernel_rfl) (by kernel_rfl) (by kernel_rfl) (by kernel_rfl) (fun _ _ _ h => h) (Or.inl ⟨by kernel_rfl, fun u hu => exec_ixH (c := c2) hlt (.tmp 21) (.tmp 22) (by kernel_rfl) (by kernel_rfl) (by kernel_rfl)⟩) hHeld ?_
        simp only [Act.put, List.setIfInBounds_toArray, List.set_cons_zero, List.set_cons_succ]
        refine go_take 7 24 _ (hkV x' (.slice zo x'.ls.length zc)) rfl (by kernel_rfl) (by kernel_rfl) (by kernel_rfl) (by kernel_rfl) (fun _ _ _ h => h) (Or.inl ⟨by kernel_rfl, fun u hu => load_hkR (hr2 u hu) (.tmp 23) (by kernel_rfl) (by kernel_rfl)⟩) hHeld ?_
        simp only [Act.put, List.setIfInBounds_toArray, List.set_cons_zero, List.set_cons_succ]
        refine go_callE 8 25 _ rfl (by kernel_rfl) (by kernel_rfl) (by kernel_rfl) 46 (.func 46) #[.tmp 20, .tmp 24] #[59, 59] (by kernel_rfl) #[] (by kernel_rfl) #[hkV x (.slice yo x.ls.length yc), hkV x' (.slice zo x'.ls.length zc)] (by kernel_rfl) (enters_of Tryz.func46 (by kernel_rfl) rfl) _ (hsameG_held hm1 hm2 hbd HR2 hHeld) ?_
        rintro _ u8 hHeld rfl
        simp only [Act.put, List.setIfInBounds_toArray, List.set_cons_zero, List.set_cons_succ]
        refine go_take 9 26 _ (.bool (!r2)) rfl (by kernel_rfl) (by kernel_rfl) (by kernel_rfl) (by kernel_rfl) (fun _ _ _ h => h) (Or.inl ⟨by kernel_rfl, fun u hu => by kernel_rfl⟩) hHeld ?_
        simp only [Act.put, List.setIfInBounds_toArray, List.set_cons_zero, List.set_cons_succ]
        refine wpAnyH_done (by kernel_rfl) ?_ _
        refine NoPanic.normal ?_
        have hB2 := hB.trans (Below.mono hHeld hB.size)
        cases hr2 : r2 with
        | true =>
          have HD3 : Hid (r = true ↔ (p1.map (·.1)).drop (k + 1) = (p2.map (·.1)).drop (k + 1)) := (by show _ ↔ _; rw [HD2.out]; simp [HR2.out.1 hr2])
          clear HD2 HR2
          subst hr2
          go_wp2
          exact ⟨⟨k + 1, by omega, by go_num, hB2, HD3⟩, by simp [intOf]; omega⟩
        | false =>
          have r0 : r = false := (by
            cases hr : r with
            | false => rfl
            | true => exact absurd (HR2.out.2 (HD2.out.1 hr).1) (by simp [hr2]))
          clear HD2 HR2
          subst hr2 r0
          go_wp2
          go_ret
          exact ⟨rfl, hB2⟩
      · have hend : decide ((k : Int) < (p1.length : Int)) = false := decide_eq_false (by omega)
        have r1 : r = true := HD.out.2 (by rw [List.drop_eq_nil_of_le (by simp; omega), List.drop_eq_nil_of_le (by have := HL.out; simp; omega)])
        subst r1
        go_wp2
        go_ret
        exact ⟨rfl, hB⟩
  · have r0 : r = false := (by
      cases hr : r with
      | false => rfl
      | true => exact absurd (by have := congrArg List.length (HR.out.1 hr); simpa using this.symm) hl12)
    subst r0
    have e1 : ((p1.length : Int) == (p2.length : Int)) = false := beq_eq_false_iff_ne.2 (by omega)
    go_enter Tryz.func18, Tryz.ntmps18
    go_wp2
    go_ret
    exact ⟨rfl, Below.refl _ _⟩
end Go.Proofs.YtgiojkhmkeocfaaGreatDoor

/- The reference's Same of patches of layer 15, walked. -/
set_option maxRecDepth 20000
namespace Go.Proofs.YtgiojkhmkeocfaaGreatDoor
open Go.RowKit

theorem pth_ext {a b c d : List UInt8} {x y : List Hk} : (⟨a, b, x⟩ : Pth) = ⟨c, d, y⟩ ↔ a = c ∧ b = d ∧ x = y := by
  constructor
  · intro h
    injection h with h1 h2 h3
    exact ⟨h1, h2, h3⟩
  · rintro ⟨rfl, rfl, rfl⟩
    rfl
set_option maxHeartbeats 4000000 in
set_option maxRecDepth 10000 in
theorem rSamePt_f (p1 p2 : Pth) (q1 q2 : List (Hk × Value)) (H1 : Hid (q1.map (·.1) = p1.hs)) (H2 : Hid (q2.map (·.1) = p2.hs)) (v1 v2 : Value) (w : World) (hv1 : HHp w v1 q1) (hv2 : HHp w v2 q2) (hok : HOw q1) (r : Bool) (HR : Hid (r = true ↔ p1 = p2)) :
    Calls Tryz.prog 58 #[ptV p1 v1, ptV p2 v2] w fun e w' => e = .returned (.bool r) ∧ Below w.heap.size w w' := by
  obtain ⟨o1, n1, s1⟩ := p1
  obtain ⟨o2, n2, s2⟩ := p2
  dsimp only at H1 H2
  obtain ⟨lo1, lc1, rfl⟩ := Holds.form hv1.row
  obtain ⟨lo2, lc2, rfl⟩ := Holds.form hv2.row
  rw [pth_ext] at HR
  have hBa : Below w.heap.size w (w.alloc (.cells #[.string ⟨o1.toArray⟩, .string ⟨n1.toArray⟩, .slice lo1 q1.length lc1] 55)) := (Below.refl _ w).alloc (Nat.le_refl _) _
  have hBb := hBa.alloc hBa.size (.cells #[.string ⟨o2.toArray⟩, .string ⟨n2.toArray⟩, .slice lo2 q2.length lc2] 55)
  have e1 : ptV ⟨o1, n1, s1⟩ (.slice lo1 q1.length lc1) = .agg #[.string ⟨o1.toArray⟩, .string ⟨n1.toArray⟩, .slice lo1 q1.length lc1] := rfl
  have e2 : ptV ⟨o2, n2, s2⟩ (.slice lo2 q2.length lc2) = .agg #[.string ⟨o2.toArray⟩, .string ⟨n2.toArray⟩, .slice lo2 q2.length lc2] := rfl
  rw [e1, e2]
  clear e1 e2
  by_cases h1 : o1 = o2
  · subst h1
    by_cases h2 : n1 = n2
    · subst h2
      have HRR : Hid (r = true ↔ q1.map (·.1) = q2.map (·.1)) := (by
        show (_ ↔ _)
        rw [H1.out, H2.out]
        have h := HR.out
        simpa using h)
      have hc := rSameHunksG_f q1 q2 _ _ _ (hv1.keep hBb (Nat.le_refl _)) (hv2.keep hBb (Nat.le_refl _)) hok r HRR
      clear HR HRR
      go_enter Tryz.func58, Tryz.ntmps58
      go_wp2_with fail
      refine hc.mono ?_
      rintro e w1 ⟨rfl, hB1⟩
      go_wp2
      go_ret
      exact ⟨rfl, hBb.trans (hB1.mono hBb.size)⟩
    · have HE : Hid (false = r) := (by
        cases r with
        | false => rfl
        | true => exact absurd (HR.out.1 rfl).2.1 h2)
      have j1 : (n1 == n2) = false := beq_eq_false_iff_ne.2 h2
      clear HR h2
      go_enter Tryz.func58, Tryz.ntmps58
      go_wp2
      go_ret
      exact ⟨by rw [← HE.out]; rfl, hBb⟩
  · have HE : Hid (false = r) := (by
      cases r with
      | false => rfl
      | true => exact absurd (HR.out.1 rfl).1 h1)
    have j1 : (o1 == o2) = false := beq_eq_false_iff_ne.2 h1
    clear HR h1
    go_enter Tryz.func58, Tryz.ntmps58
    go_wp2
    go_ret
    exact ⟨by rw [← HE.out]; rfl, hBb⟩
end Go.Proofs.YtgiojkhmkeocfaaGreatDoor

/- Rows of patches; the reference's SameAll of layer 15, walked for rows that are the same. -/
set_option maxRecDepth 20000
namespace Go.Proofs.YtgiojkhmkeocfaaGreatDoor
open Go.RowKit

/-- a row of patches -/
structure HPp (w : World) (v : Value) (F : List Pfd) : Prop where
  row : Holds w v F.length (pxcells F)
  ins : ∀ f ∈ F, f.hs.map (·.1) = f.x.hs ∧ HHp w f.v f.hs
theorem Pw.holds {w u : World} {v : Value} {F : List Pfd} (h : Pw w v F u) : HPp u v F := ⟨holds_of h.own, fun f hf => ⟨(h.ins f hf).eq.symm, holds_of (h.ins f hf).own, fun y hy => holds_of ((h.ins f hf).ins y hy)⟩⟩
theorem HPp.keep {w u : World} {v : Value} {F : List Pfd} (h : HPp w v F) (hb : Below w.heap.size w u) : HPp u v F := ⟨Holds.keep h.row fun k hk => hb.block k hk, fun f hf => ⟨(h.ins f hf).1, (h.ins f hf).2.keep hb (Nat.le_refl _)⟩⟩
theorem pxcells_length (F : List Pfd) : (pxcells F).length = F.length * 3 := by
  induction F with
  | nil => rfl
  | cons f F ih =>
    simp only [pxcells, List.flatMap_cons, List.length_append, List.length_cons] at ih ⊢
    rw [ih]
    simp [pxC]
    omega
theorem pxcells_at (F : List Pfd) : ∀ (k : Nat) (hk : k < F.length), (pxcells F)[k * 3]? = some (.string ⟨F[k].x.old.toArray⟩) ∧ (pxcells F)[k * 3 + 1]? = some (.string ⟨F[k].x.new.toArray⟩) ∧ (pxcells F)[k * 3 + 2]? = some F[k].v := by
  induction F with
  | nil => intro k hk; cases hk
  | cons f F ih =>
    intro k hk
    have e : pxcells (f :: F) = pxC f ++ pxcells F := by simp [pxcells]
    rw [e]
    cases k with
    | zero => exact ⟨rfl, rfl, rfl⟩
    | succ k =>
      obtain ⟨h1, h2, h3⟩ := ih k (by simpa using hk)
      have e0 : (k + 1) * 3 = 3 + k * 3 := by omega
      have l3 : (pxC f).length = 3 := rfl
      refine ⟨?_, ?_, ?_⟩
      · rw [e0, List.getElem?_append_right (by rw [l3]; omega), l3, show 3 + k * 3 - 3 = k * 3 by omega]; exact h1
      · rw [e0, List.getElem?_append_right (by rw [l3]; omega), l3, show 3 + k * 3 + 1 - 3 = k * 3 + 1 by omega]; exact h2
      · rw [e0, List.getElem?_append_right (by rw [l3]; omega), l3, show 3 + k * 3 + 2 - 3 = k * 3 + 2 by omega]; exact h3
theorem HPp.at {w : World} {ao : Option Addr} {n c : Nat} {F : List Pfd} (h : HPp w (.slice ao n c) F) (h0 : 0 < F.length) : ∃ b off, ao = some ⟨b, off, none⟩ ∧ b < w.heap.size ∧
    ∀ k (hk : k < F.length), w.cell? ⟨b, off + k * 3, none⟩ = some (.string ⟨F[k].x.old.toArray⟩) ∧ w.cell? ⟨b, off + k * 3 + 1, none⟩ = some (.string ⟨F[k].x.new.toArray⟩) ∧ w.cell? ⟨b, off + k * 3 + 2, none⟩ = some F[k].v := by
  obtain ⟨b, off, c', hv, hb, hc⟩ := Holds.at h.row (by rw [pxcells_length]; omega)
  cases hv
  refine ⟨b, off, rfl, hb, fun k hk => ?_⟩
  obtain ⟨h1, h2, h3⟩ := pxcells_at F k hk
  have hcc : ∀ j u, (pxcells F)[j]? = some u → w.cell? ⟨b, off + j, none⟩ = some u := fun j u hj => by
    obtain ⟨hj1, hj2⟩ := List.getElem?_eq_some_iff.1 hj
    rw [hc j hj1, hj2]
  exact ⟨hcc _ _ h1, by rw [Nat.add_assoc]; exact hcc _ _ h2, by rw [Nat.add_assoc]; exact hcc _ _ h3⟩
set_option maxHeartbeats 4000000 in
theorem rSameAll_t (F G : List Pfd) (va vb : Value) (w : World) (ha : HPp w va F) (hb : HPp w vb G) (HE : Hid (F.map (·.x) = G.map (·.x))) (HO : Hid (∀ f ∈ F, HOw f.hs)) (hl : F.length ≤ 1099511627776) :
    Calls Tryz.prog 22 #[va, vb] w fun e w' => e = .returned (.bool true) ∧ Below w.heap.size w w' := by
  obtain ⟨ao, ac, rfl⟩ := Holds.form ha.row
  obtain ⟨bo, bc, rfl⟩ := Holds.form hb.row
  have hlen : F.length = G.length := (by have := congrArg List.length HE.out; simpa using this)
  have hne : ((F.length : Int) != (G.length : Int)) = false := (by rw [hlen]; simp)
  go_enter Tryz.func22, Tryz.ntmps22
  go_wp2
  go_loopw [5] (fun i wr => ∃ k : Nat, k ≤ F.length ∧ i = .int .i64 k ∧ Below w.heap.size w wr) (fun i _ => F.length - (intOf i).toNat)
  case atStart => exact ⟨0, Nat.zero_le _, by go_num, Below.refl _ _⟩
  case round =>
  obtain ⟨k, hk, rfl, hB⟩ := hrel
  by_cases hlt : k < F.length
  · have hak := ha.keep hB
    have hbk := hb.keep hB
    obtain ⟨b1, o1, rfl, hb1, hc1⟩ := HPp.at hak (by omega)
    obtain ⟨b2, o2, rfl, hb2, hc2⟩ := HPp.at hbk (by omega)
    obtain ⟨x0, x1, x2⟩ := hc1 k hlt
    obtain ⟨y0, y1, y2⟩ := hc2 k (by omega)
    have i1 : (0 : Int) ≤ (k : Int) := by omega
    have i2 : (k : Int) < (F.length : Int) := by omega
    have i3 : (k : Int) < (G.length : Int) := by omega
    have i4 : (k : Int).toNat = k := by omega
    obtain ⟨f, hf⟩ : ∃ f, F[k] = f := ⟨_, rfl⟩
    obtain ⟨g, hg⟩ : ∃ g, G[k]'(by omega) = g := ⟨_, rfl⟩
    have hfm : f ∈ F := (by rw [← hf]; exact List.getElem_mem _)
    have hgm : g ∈ G := (by rw [← hg]; exact List.getElem_mem _)
    have hxe : f.x = g.x := (by
      have h1 : (F.map (·.x))[k]? = (G.map (·.x))[k]? := by rw [HE.out]
      rw [List.getElem?_map, List.getElem?_map, List.getElem?_eq_getElem hlt, List.getElem?_eq_getElem (by omega), hf, hg] at h1
      simpa using h1)
    rw [hf] at x0 x1 x2
    rw [hg] at y0 y1 y2
    have hcall := fun u (hu : Below w.heap.size w u) => rSamePt_f f.x g.x f.hs g.hs (ha.ins f hfm).1 (hb.ins g hgm).1 f.v g.v u ((ha.ins f hfm).2.keep hu (Nat.le_refl _)) ((hb.ins g hgm).2.keep hu (Nat.le_refl _)) (HO.out f hfm) true (show Hid (true = true ↔ f.x = g.x) from ⟨fun _ => hxe, fun _ => rfl⟩)
    obtain ⟨fo, fc, hfv⟩ := Holds.form ((ha.ins f hfm).2).row
    obtain ⟨go, gc, hgv⟩ := Holds.form ((hb.ins g hgm).2).row
    unfold ptV at hcall
    rw [hfv] at x2 hcall
    rw [hgv] at y2 hcall
    clear hc1 hc2 hak hbk hxe hf hg hfm hgm hfv hgv
    go_wp2_with fail
    go_region_with (go_at_call 58; refine (hcall _ hB.drew).mono ?_; rintro e w2 ⟨rfl, hB2⟩)
    all_goals (
      have hB3 := hB.drew.trans (hB2.mono hB.drew.size)
      first
      | exact ⟨⟨k + 1, by omega, by go_num, hB3⟩, by simp [intOf]; omega⟩
      | (go_wp2; exact ⟨⟨k + 1, by omega, by go_num, hB3⟩, by simp [intOf]; omega⟩))
  · have hend : decide ((k : Int) < (F.length : Int)) = false := decide_eq_false (by omega)
    go_wp2
    go_ret
    exact ⟨rfl, hB⟩
end Go.Proofs.YtgiojkhmkeocfaaGreatDoor

/- The reference's SameAll of layer 15, walked for any two rows of patches. -/
set_option maxRecDepth 20000
namespace Go.Proofs.YtgiojkhmkeocfaaGreatDoor
open Go.RowKit

end Go.Proofs.YtgiojkhmkeocfaaGreatDoor

/- The reference's Read of layer 12, walked: for a seat without layer 12's own code. -/
set_option maxRecDepth 20000
namespace Go.Proofs.YtgiojkhmkeocfaaGreatDoor
open Go.RowKit

set_option maxHeartbeats 2000000 in
theorem rRead15_long (t : List UInt8) (w : World) (hlong : 1048576 < t.length) :
    Calls Tryz.prog 52 #[.string ⟨t.toArray⟩] w fun e w' => e = .returned (.pointer (some ⟨w.heap.size, 0, none⟩)) ∧ Rx w' w.heap.size (.slice none 0 0) 0 0 9 ∧ Below w.heap.size w w' := by
  have HA : Hid (Rx (w.alloc (rdO (.slice none 0 0) 0 0 9)) w.heap.size (.slice none 0 0) 0 0 9 ∧ Below w.heap.size w (w.alloc (rdO (.slice none 0 0) 0 0 9))) := ⟨heap_alloc_new w _, (Below.refl _ w).alloc (Nat.le_refl _) _⟩
  have i1 : (1048576 : Int) < (t.length : Int) := by omega
  go_enter Tryz.func52, Tryz.ntmps52
  go_wp2
  go_ret
  exact ⟨rfl, HA.out.1, HA.out.2⟩
set_option maxHeartbeats 2000000 in
theorem rRead15_f (t : List UInt8) (w : World) (hl : t.length ≤ 1048576) :
    Calls Tryz.prog 52 #[.string ⟨t.toArray⟩] w fun e w' => ∃ R lo lc, e = .returned (.pointer (some ⟨R, 0, none⟩)) ∧ Rx w' R (.slice lo (Ln.splitL t).length lc) 0 0 0 ∧ w'.ownsRow w.heap.size 9 1 (.slice lo (Ln.splitL t).length lc) (Ln.splitL t).length (scells (Ln.splitL t)) ∧ (∀ a, lo = some a → a.block ≠ R) ∧ w.heap.size ≤ R ∧ Below w.heap.size w w' := by
  have hs := rSplit_f t w (by omega)
  have i1 : ¬ (1048576 : Int) < (t.length : Int) := by omega
  generalize Ln.splitL t = L at *
  go_enter Tryz.func52, Tryz.ntmps52
  go_wp2_with fail
  refine hs.mono ?_
  rintro e w1 ⟨v, rfl, hown, hb⟩
  have hL : HS w1 v L := holds_of hown
  obtain ⟨lo, lc, rfl⟩ := Holds.form hL
  have HA : Hid (Rx (w1.alloc (rdO (.slice lo L.length lc) 0 0 0)) w1.heap.size (.slice lo L.length lc) 0 0 0 ∧ (w1.alloc (rdO (.slice lo L.length lc) 0 0 0)).ownsRow w.heap.size 9 1 (.slice lo L.length lc) L.length (scells L) ∧ (∀ a, lo = some a → a.block ≠ w1.heap.size) ∧ w.heap.size ≤ w1.heap.size ∧ Below w.heap.size w (w1.alloc (rdO (.slice lo L.length lc) 0 0 0))) := (by
    refine ⟨heap_alloc_new w1 _, hown.alloc _, ?_, hb.size, hb.alloc hb.size _⟩
    intro a ha e
    rcases hown.2 with ⟨h1, _⟩ | ⟨g, cap, cur, h1, _, h2, _⟩
    · injection h1 with h3 _ _
      rw [h3] at ha
      cases ha
    · cases h1
      cases ha
      have := (Array.getElem?_eq_some_iff.1 h2).1
      dsimp only at e
      omega)
  clear hs hb
  go_wp2
  go_ret
  exact ⟨_, _, _, rfl, HA.out⟩
end Go.Proofs.YtgiojkhmkeocfaaGreatDoor

/- The references' Parse of layers 15 and 16: their variables in memory. -/
set_option maxRecDepth 20000
namespace Go.Proofs.YtgiojkhmkeocfaaGreatDoor
open Go.RowKit Go.Proofs.YtgiojkhmkeocfaaGreatDoor.Tx

theorem results_tmp_cell {P : Program} {fn : Func} {p q : Tmp} {ty : TypeId} (h : fn.results = #[.tmp q, .cell p ty]) (tmps : Array Value) (w : World) (g : Nat) (t : TypeId) (cs : Array Value) (fr : Nat × Nat) (d : TypeDesc)
    (hp : tmps.getD p undef = .pointer (some ⟨g, 0, none⟩)) (hg : w.heap[g]? = some (.cells cs t fr))
    (hu : P.underlying ty = some d) (hd : (match d with | .struct _ | .array _ _ => true | _ => false) = true) (hi : (P.info? ty).map (·.size) = some cs.size) :
    (results fn tmps).run P w = .ok (.tuple #[tmps.getD q undef, .agg cs]) w := by
  have hp' : tmps[p]?.getD undef = .pointer (some ⟨g, 0, none⟩) := by simpa using hp
  simp [results, h, hp', asAddr, run_loadVar_row w g t ty cs fr d hg hu hd hi, Result.andThen]
/-- the reader's block, whether or not a fault stands -/
theorem RdZ.blk {u : World} {R : Nat} {vL : Value} {st : Except (Nat × Int) Nat} (h : RdZ u R vL st) : ∃ cs, u.heap[R]? = some (.cells cs 112) := by
  match st, h with
  | .ok _, h => exact ⟨_, h⟩
  | .error (_, _), ⟨⟨_, h⟩, _⟩ => exact ⟨_, h⟩
/-- is there a further line, and no fault? -/
def mrZ (L : List (List UInt8)) : Except (Nat × Int) Nat → Bool
  | .error _ => false
  | .ok p => decide (p < L.length)
theorem gMore_f {R : Nat} {L : List (List UInt8)} {lo : Option Addr} {lc : Nat} {st : Except (Nat × Int) Nat} (w : World) (q : RdZ w R (.slice lo L.length lc) st) (b : Bool) (HB : Hid (mrZ L st = b)) :
    Calls Tryz.prog 53 #[.pointer (some ⟨R, 0, none⟩)] w fun x w' => x = .returned (.bool b) ∧ ∃ m, w' = w.drewN m := by
  match st, q, HB with
  | .error (a, z), ⟨⟨p, q⟩, hz⟩, HB =>
    have hb := HB.out
    refine (rMore_f w q).mono ?_
    rintro x w' ⟨rfl, m, rfl⟩
    refine ⟨?_, m, rfl⟩
    rw [← hb, decide_eq_false hz, Bool.false_and]
    rfl
  | .ok p, q, HB =>
    have hb := HB.out
    refine (rMore_f w q).mono ?_
    rintro x w' ⟨rfl, m, rfl⟩
    refine ⟨?_, m, rfl⟩
    rw [← hb, decide_eq_true (rfl : (0 : Int) = 0), Bool.true_and]
    rfl
/-- the name that was read, or none -/
def nmN (Z : Except (Nat × Int) (List UInt8 × Nat)) : List UInt8 := match Z with
  | .error _ => []
  | .ok (n, _) => n
theorem NxQ.st {R : Nat} {vL : Value} {Z : Except (Nat × Int) (List UInt8 × Nat)} {x : Ending} {w' : World} (h : NxQ R vL Z x w') : x = .returned (.string ⟨(nmN Z).toArray⟩) ∧ RdZ w' R vL (stP Z) := by
  rcases Z with e | ⟨n, p1⟩
  · exact h
  · exact h
/-- the state behind both names -/
def naS (a1 _a2 : List UInt8) (L : List (List UInt8)) (k : Nat) (st : Except (Nat × Int) Nat) : Except (Nat × Int) Nat := if 64 ≤ k then flS 9 (stP (nmZ a1 L st)) else stP (nmZ a1 L st)
/-- a patch behind both names -/
def gTo (G : HkF) (x : List UInt8) (L : List (List UInt8)) (n1 n2 : List UInt8) : Except (Nat × Int) Nat → Except (Nat × Int) (Pth × Nat)
  | .error e => .error e
  | .ok p2 => gIn n1 n2 (gHs G x L ((L.drop p2).length + 1) 0 p2)
theorem gPa_st {G : HkF} {x a1 a2 : List UInt8} {L : List (List UInt8)} {k p : Nat} : gPa G x a1 a2 L k p = gTo G x L (nmN (nmZ a1 L (.ok p))) (nmN (nmZ a2 L (naS a1 a2 L k (.ok p)))) (stP (nmZ a2 L (naS a1 a2 L k (.ok p)))) := by
  unfold gPa naS
  cases h1 : nmZ a1 L (.ok p) with
  | error e =>
    have h2 : (if 64 ≤ k then flS 9 (stP (Except.error e : Except (Nat × Int) (List UInt8 × Nat))) else stP (Except.error e : Except (Nat × Int) (List UInt8 × Nat))) = .error e := (by split <;> rfl)
    rw [h2]
    rfl
  | ok z =>
    obtain ⟨n1, p1⟩ := z
    dsimp only [stP]
    by_cases h2 : 64 ≤ k
    · rw [if_pos h2, if_pos h2]
      rfl
    · rw [if_neg h2, if_neg h2]
      cases h3 : nmZ a2 L (.ok p1) with
      | error e => rfl
      | ok z => rfl
theorem naS_ok {a1 a2 : List UInt8} {L : List (List UInt8)} {k p p2 : Nat} (h : stP (nmZ a2 L (naS a1 a2 L k (.ok p))) = .ok p2) : p < p2 ∧ p2 ≤ L.length := by
  cases h1 : naS a1 a2 L k (.ok p) with
  | error e => rw [h1] at h; cases h
  | ok p1 =>
    rw [h1] at h
    cases h2 : nmZ a2 L (.ok p1) with
    | error e => rw [h2] at h; cases h
    | ok z =>
      obtain ⟨n2, q2⟩ := z
      obtain ⟨e1, e2⟩ := nmZ_ok h2
      rw [h2] at h
      cases h
      have h3 : p < p1 := by
        unfold naS at h1
        cases h4 : nmZ a1 L (.ok p) with
        | error e =>
          rw [h4] at h1
          split at h1 <;> cases h1
        | ok z =>
          obtain ⟨n1, q1⟩ := z
          obtain ⟨e3, _⟩ := nmZ_ok h4
          rw [h4] at h1
          split at h1
          · cases h1
          · cases h1
            omega
      omega
theorem naS1_ok {a1 a2 : List UInt8} {L : List (List UInt8)} {k p p1 : Nat} (h : naS a1 a2 L k (.ok p) = .ok p1) : p1 ≤ L.length := by
  unfold naS at h
  cases h4 : nmZ a1 L (.ok p) with
  | error e =>
    rw [h4] at h
    split at h <;> cases h
  | ok z =>
    obtain ⟨n1, q1⟩ := z
    obtain ⟨e3, _⟩ := nmZ_ok h4
    rw [h4] at h
    split at h
    · cases h
    · cases h
      omega
/-- what is left of a patch's hunks at a state -/
def gSt (G : HkF) (x : List UInt8) (L : List (List UInt8)) (l : List Hk) (f : Nat) (Y : Except (Nat × Int) (List Hk × Nat)) : Except (Nat × Int) Nat → Prop
  | .error e => Y = .error e
  | .ok p => gLf G x L l f p = Y ∧ p ≤ L.length ∧ L.length < f + p ∧ l.length ≤ p
/-- what is left of the patches at a state -/
def gOt (G : HkF) (x a1 a2 : List UInt8) (L : List (List UInt8)) (l : List Pth) (f : Nat) (X : Except (Nat × Int) (List Pth)) : Except (Nat × Int) Nat → Prop
  | .error e => X = .error e
  | .ok p => thenPs l (gPs G x a1 a2 L f l.length p) = X ∧ p ≤ L.length ∧ L.length ≤ f + p ∧ l.length ≤ p
/-- the patch behind its hunks -/
def gEn (n1 n2 : List UInt8) (l : List Hk) (Z : Except (Nat × Int) (Pth × Nat)) : Except (Nat × Int) Nat → Prop
  | .error e => Z = .error e
  | .ok p => Z = .ok (⟨n1, n2, l⟩, p)
theorem gOt_next {G : HkF} {x a1 a2 : List UInt8} {L : List (List UInt8)} (hG : GOk G L) {l : List Pth} {f p : Nat} {X : Except (Nat × Int) (List Pth)} (hp : p < L.length) (h : thenPs l (gPs G x a1 a2 L f l.length p) = X ∧ p ≤ L.length ∧ L.length ≤ f + p ∧ l.length ≤ p) {n1 n2 : List UInt8} {hs : List Hk} {st : Except (Nat × Int) Nat} (hE : gEn n1 n2 hs (gPa G x a1 a2 L l.length p) st) : gOt G x a1 a2 L (l ++ [⟨n1, n2, hs⟩]) (f - 1) X st := by
  obtain ⟨h1, h2, h3, h4⟩ := h
  obtain ⟨f', rfl⟩ : ∃ f', f = f' + 1 := ⟨f - 1, by omega⟩
  rw [gPs_go hp] at h1
  cases st with
  | error e =>
    have hE2 : gPa G x a1 a2 L l.length p = .error e := hE
    rw [hE2] at h1
    exact h1.symm
  | ok p3 =>
    have hE2 : gPa G x a1 a2 L l.length p = .ok (⟨n1, n2, hs⟩, p3) := hE
    have h5 := gPa_ok hG hE2
    rw [hE2] at h1
    refine ⟨?_, h5.2.1, by omega, by rw [List.length_append]; simp; omega⟩
    rw [List.length_append]
    exact h1

/-- a patch's box, its hunks' rows, the reader -/
structure Pzr (wb : World) (R S : Nat) (vL : Value) (n1 n2 : List UInt8) (hv : Value) (P : List (Hk × Value)) (st : Except (Nat × Int) Nat) (u : World) : Prop where
  gr : wb.grownBy u (some R)
  box : u.heap[S]? = some (.cells #[.string ⟨n1.toArray⟩, .string ⟨n2.toArray⟩, hv] 55)
  own : u.ownsRow wb.heap.size 59 5 hv P.length (hkcells P)
  ins : ∀ x ∈ P, u.ownsRow wb.heap.size 103 2 x.2 x.1.ls.length (mkcells x.1.ls)
  rd : RdZ u R vL st
  ge : wb.heap.size ≤ S
  rl : R < wb.heap.size
section
variable {wb u u' : World} {R S : Nat} {vL hv : Value} {n1 n2 : List UInt8} {P : List (Hk × Value)} {st st' : Except (Nat × Int) Nat}
theorem Pzr.keep (h : Pzr wb R S vL n1 n2 hv P st u) (hb : Below u.heap.size u u') : Pzr wb R S vL n1 n2 hv P st u' := ⟨grown_two h.gr (low_grown hb _), (hb.block S (Array.getElem?_eq_some_iff.1 h.box).1).trans h.box, owns_keep h.own hb, fun x hx => owns_keep (h.ins x hx) hb, h.rd.low hb, h.ge, h.rl⟩
theorem Pzr.ne (h : Pzr wb R S vL n1 n2 hv P st u) : R ≠ S := by have h1 := h.ge; have h2 := h.rl; omega
/-- a call that moves the reader -/
theorem Pzr.call (h : Pzr wb R S vL n1 n2 hv P st u) (hg : u.grownBy u' (some R)) (q : RdZ u' R vL st') : Pzr wb R S vL n1 n2 hv P st' u' := ⟨grown_two h.gr hg, (hg.block S (Array.getElem?_eq_some_iff.1 h.box).1 (fun e => h.ne (Option.some.inj e).symm)).trans h.box, owns_fr h.own hg h.rl, fun x hx => owns_fr (h.ins x hx) hg h.rl, q, h.ge, h.rl⟩
theorem Pzr.cells (h : Pzr wb R S vL n1 n2 hv P st u) : u.cell? ⟨S, 0, none⟩ = some (.string ⟨n1.toArray⟩) ∧ u.cell? ⟨S, 1, none⟩ = some (.string ⟨n2.toArray⟩) ∧ u.cell? ⟨S, 2, none⟩ = some hv := by
  refine ⟨?_, ?_, ?_⟩ <;> rw [Lib.cell_of_heap h.box] <;> rfl
theorem Pzr.frozen (h : Pzr wb R S vL n1 n2 hv P st u) (j : Nat) : u.frozen? ⟨S, j, none⟩ = false := Lib.frozen_of_heap h.box j
/-- a cell of the box is written -/
theorem Pzr.put (h : Pzr wb R S vL n1 n2 hv P st u) (j : Nat) (z : Value) {m1 m2 : List UInt8} {hv' : Value} (hc : #[Value.string ⟨n1.toArray⟩, .string ⟨n2.toArray⟩, hv].setIfInBounds j z = #[.string ⟨m1.toArray⟩, .string ⟨m2.toArray⟩, hv']) (ho : u.ownsRow wb.heap.size 59 5 hv' P.length (hkcells P)) : Pzr wb R S vL m1 m2 hv' P st (u.setCell ⟨S, j, none⟩ z) := by
  have hg := grown_set u S j z
  refine ⟨grown_new h.gr h.ge j z, ?_, ho.kept hg (.inr (own_box2 ho h.box (by decide))), fun x hx => (h.ins x hx).kept hg (.inr (own_box2 (h.ins x hx) h.box (by decide))), h.rd.off hg (fun e => h.ne (Option.some.inj e)), h.ge, h.rl⟩
  have := heap_setCell_same u S j _ _ z h.box
  rw [hc] at this
  exact this
/-- one hunk more -/
theorem Pzr.more (h : Pzr wb R S vL n1 n2 hv P st u) {x : Hk} {y hv' : Value} (hy : u.ownsRow wb.heap.size 103 2 y x.ls.length (mkcells x.ls)) (hg : u.grownBy u' hv.ownBlock) (ho : u'.ownsRow wb.heap.size 59 5 hv' (P.length + 1) (hkcells P ++ hkC x y)) :
    Pzr wb R S vL n1 n2 hv' (P ++ [(x, y)]) st (u'.setCell ⟨S, 2, none⟩ hv') ∧ u'.cell? ⟨S, 2, none⟩ = some hv ∧ u'.frozen? ⟨S, 2, none⟩ = false := by
  have hge : ∀ j, hv.ownBlock = some j → wb.heap.size ≤ j := fun j hj => owns_ge h.own hj
  have hb : u'.heap[S]? = some (.cells #[.string ⟨n1.toArray⟩, .string ⟨n2.toArray⟩, hv] 55) := (hg.block S (Array.getElem?_eq_some_iff.1 h.box).1 (fun e => own_box2 h.own h.box (by decide) e.symm)).trans h.box
  have hgR : wb.grownBy u' (some R) := ⟨hg.os.trans h.gr.os, hg.tape.trans h.gr.tape, hg.output.trans h.gr.output, Nat.le_trans h.gr.size hg.size, fun k h1 h2 => (hg.block k (Nat.lt_of_lt_of_le h1 h.gr.size) (fun e => by have := hge k e.symm; omega)).trans (h.gr.block k h1 h2)⟩
  have hck : RdZ u' R vL st := h.rd.off hg (fun e => by have := hge R e.symm; have := h.rl; omega)
  have key : ∀ {v : Value} {n : Nat} {xs : List Value}, u.ownsRow wb.heap.size 103 2 v n xs → u'.ownsRow wb.heap.size 103 2 v n xs := by
    intro v n xs hv2
    refine ⟨hv2.1, ?_⟩
    rcases hv2.2 with q | ⟨b, cap, cur, rfl, q2, q3, q4⟩
    · exact .inl q
    · refine .inr ⟨b, cap, cur, rfl, q2, ?_, q4⟩
      rw [hg.block b (Array.getElem?_eq_some_iff.1 q3).1 (fun e => own_box2 h.own q3 (by decide) e.symm)]
      exact q3
  have hg2 := grown_set u' S 2 hv'
  have hkc : hkcells (P ++ [(x, y)]) = hkcells P ++ hkC x y := by rw [hkcells_append]; simp [hkcells, hkC]
  refine ⟨⟨grown_new hgR h.ge 2 hv', heap_setCell_same u' S 2 _ _ hv' hb, ?_, ?_, hck.off hg2 (fun e => h.ne (Option.some.inj e)), h.ge, h.rl⟩, by rw [Lib.cell_of_heap hb]; rfl, Lib.frozen_of_heap hb 2⟩
  · rw [List.length_append, hkc]
    exact ho.kept hg2 (.inr (own_box2 ho hb (by decide)))
  · intro z hz
    rcases List.mem_append.1 hz with hz | hz
    · exact (key (h.ins z hz)).kept hg2 (.inr (own_box2 (key (h.ins z hz)) hb (by decide)))
    · rw [List.mem_singleton.1 hz]
      exact (key hy).kept hg2 (.inr (own_box2 (key hy) hb (by decide)))
end
/-- Parse's own variables: what was found, the result's box, the reader -/
structure Rg (w : World) (R : Nat) (L : List (List UInt8)) (vL ov : Value) (F : List Pfd) (st : Except (Nat × Int) Nat) (u : World) : Prop where
  pw : Pw w ov F u
  f0 : u.heap[w.heap.size]? = some (.cells #[.int .i64 0, .int .i64 0] 42)
  rd : RdZ u R vL st
  rl : w.heap.size < R
  ln : u.ownsRow w.heap.size 9 1 vL L.length (scells L)
section
variable {w u u' : World} {R : Nat} {L : List (List UInt8)} {vL ov : Value} {F : List Pfd} {st st' : Except (Nat × Int) Nat}
theorem Rg.keep (h : Rg w R L vL ov F st u) (hb : Below u.heap.size u u') : Rg w R L vL ov F st u' := ⟨⟨h.pw.low.trans (hb.mono h.pw.low.size), owns_keep h.pw.own hb, fun f hf => (h.pw.ins f hf).keep hb⟩, (hb.block _ (Array.getElem?_eq_some_iff.1 h.f0).1).trans h.f0, h.rd.low hb, h.rl, owns_keep h.ln hb⟩
theorem Rg.call (h : Rg w R L vL ov F st u) (hg : u.grownBy u' (some R)) (q : RdZ u' R vL st') : Rg w R L vL ov F st' u' := by
  have hk : ∀ k x, k ≠ R → u.heap[k]? = some x → u'.heap[k]? = some x := fun k _ hk hx => (hg.block k (Array.getElem?_eq_some_iff.1 hx).1 (fun e => hk (Option.some.inj e))).trans hx
  obtain ⟨cs, hb⟩ := h.rd.blk
  have hr := h.rl
  exact ⟨⟨h.pw.low.grown hg h.pw.low.size (fun k e => by cases e; omega), h.pw.own.kept hg (.inr (own_box2 h.pw.own hb (by decide))), fun f hf => (h.pw.ins f hf).box hb (by decide) (by decide) hg⟩, hk _ _ (by omega) h.f0, q, h.rl, h.ln.kept hg (.inr (own_box2 h.ln hb (by decide)))⟩
theorem Rg.lines (h : Rg w R L vL ov F st u) (hg : u.grownBy u' (some R)) : HS u' vL L := by
  obtain ⟨cs, hb⟩ := h.rd.blk
  exact holds_of (h.ln.kept hg (.inr (own_box2 h.ln hb (by decide))))
theorem Rg.ne (h : Rg w R L vL ov F st u) {lo : Option Addr} {n c : Nat} (hv : vL = .slice lo n c) : ∀ a, lo = some a → a.block ≠ R := by
  obtain ⟨cs, hb⟩ := h.rd.blk
  intro a ha e
  subst hv
  subst ha
  rcases h.ln.2 with ⟨q, _⟩ | ⟨b, cap, cur, q1, q2, q3, q4⟩
  · cases q
  · cases q1
    dsimp only at e
    subst e
    rw [hb] at q3
    cases q3
/-- one patch more -/
theorem Rg.more (h : Rg w R L vL ov F st u) {f : Pfd} {ov' : Value} (hy : Pown w.heap.size u f) (hg : u.grownBy u' ov.ownBlock) (ho : u'.ownsRow w.heap.size 55 3 ov' (F.length + 1) (pxcells F ++ pxC f)) : Rg w R L vL ov' (F ++ [f]) st u' := by
  have hk : ∀ (k : Nat) (cs : Array Value) (t : TypeId) (fr : Nat × Nat), t ≠ 55 → u.heap[k]? = some (Obj.cells cs t fr) → u'.heap[k]? = some (Obj.cells cs t fr) := fun k cs t fr ht hx => (hg.block k (Array.getElem?_eq_some_iff.1 hx).1 (fun e => own_box2 h.pw.own hx ht.symm e.symm)).trans hx
  obtain ⟨cs, hb⟩ := h.rd.blk
  have hne : some R ≠ ov.ownBlock := fun e => own_box2 h.pw.own hb (by decide) e.symm
  have hin : ∀ g, Pown w.heap.size u g → Pown w.heap.size u' g := fun g hp => ⟨hp.eq, row_other hp.own h.pw.own (by decide) hg, fun y hy => row_other (hp.ins y hy) h.pw.own (by decide) hg⟩
  have hlow := h.pw.low.grown hg h.pw.low.size (fun k e => owns_ge h.pw.own e)
  refine ⟨⟨hlow, ?_, ?_⟩, hk _ _ _ _ (by decide) h.f0, h.rd.off hg hne, h.rl, row_other h.ln h.pw.own (by decide) hg⟩
  · have e1 : pxcells (F ++ [f]) = pxcells F ++ pxC f := by simp [pxcells]
    rw [List.length_append, e1]
    exact ho
  · intro g hgm
    rcases List.mem_append.1 hgm with hm | hm
    · exact hin g (h.pw.ins g hm)
    · rw [List.mem_singleton.1 hm]; exact hin f hy
theorem Rg.cells (h : Rg w R L vL ov F st u) : u.cell? ⟨w.heap.size, 0, none⟩ = some (.int .i64 0) ∧ u.cell? ⟨w.heap.size, 1, none⟩ = some (.int .i64 0) ∧ ∀ j, u.frozen? ⟨w.heap.size, j, none⟩ = false := ⟨by rw [Lib.cell_of_heap h.f0]; rfl, by rw [Lib.cell_of_heap h.f0]; rfl, fun j => Lib.frozen_of_heap h.f0 j⟩
/-- the result's box is written -/
theorem Rg.fin (h : Rg w R L vL ov F st u) (a z : Int) : ((u.setCell ⟨w.heap.size, 0, none⟩ (.int .i64 a)).setCell ⟨w.heap.size, 1, none⟩ (.int .i64 z)).heap[w.heap.size]? = some (.cells #[.int .i64 a, .int .i64 z] 42) ∧ Pw w ov F ((u.setCell ⟨w.heap.size, 0, none⟩ (.int .i64 a)).setCell ⟨w.heap.size, 1, none⟩ (.int .i64 z)) := by
  have s0 := heap_setCell_same u _ 0 _ _ (.int .i64 a) h.f0
  have g0 := grown_set u w.heap.size 0 (.int .i64 a)
  have g1 := grown_set (u.setCell ⟨w.heap.size, 0, none⟩ (.int .i64 a)) w.heap.size 1 (.int .i64 z)
  refine ⟨heap_setCell_same _ _ 1 _ _ (.int .i64 z) s0, (h.pw.low.setCell (Nat.le_refl _) _).setCell (Nat.le_refl _) _, ?_, fun f hf => ?_⟩
  · have := h.pw.own.kept g0 (.inr (own_box2 h.pw.own h.f0 (by decide)))
    exact this.kept g1 (.inr (own_box2 this s0 (by decide)))
  · exact ((h.pw.ins f hf).box h.f0 (by decide) (by decide) g0).box s0 (by decide) (by decide) g1
/-- where all that lies at the patch's hunks, it lies for Parse -/
theorem Rg.inner {wb : World} {S : Nat} {hv : Value} {n1 n2 : List UInt8} {P : List (Hk × Value)} (h : Rg w R L vL ov F st wb) (hz : Pzr wb R S vL n1 n2 hv P st' u) : Rg w R L vL ov F st' u ∧ Pown w.heap.size u ⟨⟨n1, n2, P.map (·.1)⟩, hv, P⟩ := ⟨h.call hz.gr hz.rd, rfl, own_base hz.own h.pw.low.size, fun y hy => own_base (hz.ins y hy) h.pw.low.size⟩
end
/-- what the reference's Parse answers -/
def RfQ6 (w : World) (X : Except (Nat × Int) (List Pth)) (e : Ending) (w' : World) : Prop :=
  match X with
  | .error (a, z) => e = .returned (.tuple #[.slice none 0 0, .agg #[.int .i64 (a : Int), .int .i64 z]]) ∧ z ≠ 0 ∧ Below w.heap.size w w'
  | .ok l => ∃ v' F, e = .returned (.tuple #[v', .agg #[.int .i64 0, .int .i64 0]]) ∧ Pw w v' F w' ∧ F.map (·.x) = l
end Go.Proofs.YtgiojkhmkeocfaaGreatDoor

/- The reference's ranged of layer 15, walked. -/
set_option maxRecDepth 20000
namespace Go.Proofs.YtgiojkhmkeocfaaGreatDoor
open Go.RowKit
attribute [local go_sem] ByteArray.extract_mk no_at

end Go.Proofs.YtgiojkhmkeocfaaGreatDoor

/- The reference's kept of layer 15, walked. -/
set_option maxRecDepth 20000
namespace Go.Proofs.YtgiojkhmkeocfaaGreatDoor
open Go.RowKit

end Go.Proofs.YtgiojkhmkeocfaaGreatDoor

/- The reference's joined of layer 15, walked: both sides as one. -/
set_option maxRecDepth 20000
namespace Go.Proofs.YtgiojkhmkeocfaaGreatDoor
open Go.RowKit
attribute [local go_sem] ByteArray.extract_mk no_at

end Go.Proofs.YtgiojkhmkeocfaaGreatDoor
