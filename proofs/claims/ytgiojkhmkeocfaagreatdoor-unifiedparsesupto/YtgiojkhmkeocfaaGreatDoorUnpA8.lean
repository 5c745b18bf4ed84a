/-
  Texts that belong together, joined: CrU, PgT, UnMath, UrA, UnM2, UnM3, UnC, UrB, UkA, UkN, UkB, UkD, UnD.
-/
import Derived.Test.YtgiojkhmkeocfaaGreatDoorUnpA7
import Derived.Test.YtgiojkhmkeocfaaGreatDoorUnpA3
import Derived.Deep.CutBlock
import Derived.Deep.CutRange
import Derived.Test.YtgiojkhmkeocfaaGreatDoorUnpA4
import Derived.Test.YtgiojkhmkeocfaaGreatDoorUnpA6
import Derived.Lib.IndexMore
import Derived.ChangeKeysEq
import Derived.Laws.StructEq

/- The reference's hunk of layer 15: what is known of both sides while it goes on. -/
set_option maxRecDepth 20000
namespace Go.Proofs.YtgiojkhmkeocfaaGreatDoor
open Go.RowKit

abbrev hxO (A AN B BN : Int) (v : Value) : Obj := .cells #[.int .i64 A, .int .i64 AN, .int .i64 B, .int .i64 BN, v] 59
def Bh (u : World) (b : Nat) : Prop := u.heap[b]? = some (hxO 0 0 0 0 (.slice none 0 0))
theorem own_frame {u u' : World} {B : Nat} {e : TypeId} {s : Nat} {v : Value} {n : Nat} {xs : List Value} (h : u.ownsRow B e s v n xs) (hk : ∀ k, v.ownBlock = some k → u'.heap[k]? = u.heap[k]?) : u'.ownsRow B e s v n xs := by
  refine ⟨h.1, ?_⟩
  rcases h.2 with q | ⟨b, cap, cur, rfl, q2, q3, q4⟩
  · exact .inl q
  · refine .inr ⟨b, cap, cur, rfl, q2, ?_, q4⟩
    rw [hk b rfl]
    exact q3
theorem own_ltR {u : World} {B : Nat} {e : TypeId} {s : Nat} {v : Value} {n : Nat} {xs : List Value} (h : u.ownsRow B e s v n xs) {k : Nat} (hk : v.ownBlock = some k) : k < u.heap.size := by
  rcases h.2 with ⟨rfl, _⟩ | ⟨b, cap, cur, rfl, q2, q3, q4⟩
  · cases hk
  · cases hk
    exact (Array.getElem?_eq_some_iff.1 q3).1
/-- both sides' variables, and their rows; the result's -/
structure H2 (w : World) (R O V : Nat) (a p n : Int) (vk vl : Value) (o : Sde) (a2 p2 n2 : Int) (uk ul : Value) (v : Sde) (u : World) : Prop where
  gr : w.grownBy u (some R)
  q : Bh u w.heap.size
  bo : Bp5 u O a p n vk vl
  bv : Bp5 u V a2 p2 n2 uk ul
  o1 : u.ownsRow w.heap.size 5 1 vk o.length (kcells o)
  o2 : u.ownsRow w.heap.size 9 1 vl o.length (scells (o.map (·.2)))
  v1 : u.ownsRow w.heap.size 5 1 uk v.length (kcells v)
  v2 : u.ownsRow w.heap.size 9 1 ul v.length (scells (v.map (·.2)))
  r1 : R < w.heap.size
  r2 : w.heap.size < O
  r3 : O < V
theorem H2.low {w u u' : World} {R O V : Nat} {a p n : Int} {vk vl : Value} {o : Sde} {a2 p2 n2 : Int} {uk ul : Value} {v : Sde} (h : H2 w R O V a p n vk vl o a2 p2 n2 uk ul v u) (hb : Below u.heap.size u u') : H2 w R O V a p n vk vl o a2 p2 n2 uk ul v u' :=
  ⟨grown_two h.gr (low_grown hb _), (hb.block _ (Array.getElem?_eq_some_iff.1 h.q).1).trans h.q, h.bo.low hb, h.bv.low hb, owns_keep h.o1 hb, owns_keep h.o2 hb, owns_keep h.v1 hb, owns_keep h.v2 hb, h.r1, h.r2, h.r3⟩
theorem hsd_of3 {u : World} {B B2 : Nat} {vk vl : Value} {x : Sde} (hk : u.ownsRow B 5 1 vk x.length (kcells x)) (hl : u.ownsRow B2 9 1 vl x.length (scells (x.map (·.2)))) : Hsd u vk vl x := ⟨holds_of hk, by have := holds_of hl; unfold HS; rw [List.length_map]; exact this⟩
theorem H2.ho {w u : World} {R O V : Nat} {a p n : Int} {vk vl : Value} {o : Sde} {a2 p2 n2 : Int} {uk ul : Value} {v : Sde} (h : H2 w R O V a p n vk vl o a2 p2 n2 uk ul v u) : Hsd u vk vl o := hsd_of3 h.o1 h.o2
theorem H2.hv {w u : World} {R O V : Nat} {a p n : Int} {vk vl : Value} {o : Sde} {a2 p2 n2 : Int} {uk ul : Value} {v : Sde} (h : H2 w R O V a p n vk vl o a2 p2 n2 uk ul v u) : Hsd u uk ul v := hsd_of3 h.v1 h.v2
theorem H2.rd {w u u' : World} {R O V : Nat} {a p n : Int} {vk vl : Value} {o : Sde} {a2 p2 n2 : Int} {uk ul : Value} {v : Sde} (h : H2 w R O V a p n vk vl o a2 p2 n2 uk ul v u) (hg : u.grownBy u' (some R)) : H2 w R O V a p n vk vl o a2 p2 n2 uk ul v u' := by
  have h1 := h.r1
  have h2 := h.r2
  have h3 := h.r3
  exact ⟨grown_two h.gr hg, (hg.block _ (Array.getElem?_eq_some_iff.1 h.q).1 (fun e => by have := Option.some.inj e; omega)).trans h.q, h.bo.off hg (fun e => by have := Option.some.inj e; omega), h.bv.off hg (fun e => by have := Option.some.inj e; omega), owns_fr h.o1 hg h1, owns_fr h.o2 hg h1, owns_fr h.v1 hg h1, owns_fr h.v2 hg h1, h.r1, h.r2, h.r3⟩
/-- what a hunk leaves behind -/
def HkS (R : Nat) (vL : Value) (X : Except (Nat × Int) (Hk × Nat)) (h : Hk) (w' : World) : Prop :=
  match X with
  | .error e => RdZ w' R vL (.error e)
  | .ok (h1, p1) => h = h1 ∧ RdZ w' R vL (.ok p1)
theorem RgR.st {R : Nat} {vL : Value} {Z : Except (Nat × Int) ((Int × Int) × Nat)} {a p n : Int} {w' : World} (h : RgR R vL Z a p n w') : RdZ w' R vL (stP Z) := by
  rcases Z with e | ⟨q, p1⟩
  · exact h
  · exact h.2.2.2
theorem LnQ5.st {R : Nat} {vL : Value} {Z : Except (Nat × Int) (Sde × Nat)} {x : Sde} {w' : World} (h : LnQ5 R vL Z x w') : RdZ w' R vL (stP Z) := by
  rcases Z with e | ⟨q, p1⟩
  · exact h
  · exact h.2
end Go.Proofs.YtgiojkhmkeocfaaGreatDoor

/- The references' Parse of layers 15 and 16: how far they have come. -/
set_option maxRecDepth 20000
namespace Go.Proofs.YtgiojkhmkeocfaaGreatDoor
open Go.RowKit Go.Proofs.YtgiojkhmkeocfaaGreatDoor.Tx

/-- how much is left at a state -/
def zN (L : List (List UInt8)) : Except (Nat × Int) Nat → Nat
  | .error _ => 0
  | .ok p => L.length - p + 1
/-- the same, read off the reader -/
def zW (L : List (List UInt8)) (u : World) (R : Nat) : Nat := match u.cell? ⟨R, 3, none⟩, u.cell? ⟨R, 1, none⟩ with
  | some (.int _ z), some (.int _ p) => if z = 0 then L.length - p.toNat + 1 else 0
  | _, _ => 0
theorem zW_of {L : List (List UInt8)} {u : World} {R : Nat} {vL : Value} {st : Except (Nat × Int) Nat} (h : RdZ u R vL st) : zW L u R = zN L st := by
  match st, h with
  | .ok p, h =>
    obtain ⟨_, c1, _, c3⟩ := Rx.cells h
    unfold zW
    rw [c3, c1]
    simp [zN]
  | .error (a, z), ⟨⟨p, h⟩, hz⟩ =>
    obtain ⟨_, c1, _, c3⟩ := Rx.cells h
    unfold zW
    rw [c3, c1]
    simp [zN, hz]
theorem gHs_fuel {G : HkF} {x : List UInt8} {L : List (List UInt8)} (hG : GOk G L) (f : Nat) : ∀ (f' k p : Nat), p ≤ L.length → L.length < f + p → L.length < f' + p → gHs G x L f k p = gHs G x L f' k p := by
  induction f with
  | zero => intro f' k p h1 h2; omega
  | succ f ih =>
    intro f' k p h1 h2 h3
    obtain ⟨f2, rfl⟩ : ∃ n, f' = n + 1 := ⟨f' - 1, by omega⟩
    simp only [gHs]
    cases h : G k L p with
    | error e => rfl
    | ok z =>
      obtain ⟨y, p1⟩ := z
      have h4 := hG _ _ _ _ h
      dsimp only
      rw [ih f2 (k + 1) p1 h4.2 (by omega) (by omega)]
theorem grown_blk {wb u v : World} {R : Nat} (hg : wb.grownBy u (some R)) (hv : ∀ k, k < u.heap.size → k ≠ R → v.heap[k]? = u.heap[k]?) : ∀ k, k < wb.heap.size → k ≠ R → v.heap[k]? = wb.heap[k]? := fun k h1 h2 => (hv k (Nat.lt_of_lt_of_le h1 hg.size) h2).trans (hg.block k h1 (fun e => h2 (Option.some.inj e)))
theorem blk_self {wb u : World} {R : Nat} (hg : wb.grownBy u (some R)) : ∀ k, k < wb.heap.size → k ≠ R → u.heap[k]? = wb.heap[k]? := fun k h1 h2 => hg.block k h1 (fun e => h2 (Option.some.inj e))
theorem Rg.linesB {w u : World} {R : Nat} {L : List (List UInt8)} {vL ov : Value} {F : List Pfd} {st : Except (Nat × Int) Nat} (h : Rg w R L vL ov F st u) {v : World} (hv : ∀ k, k < u.heap.size → k ≠ R → v.heap[k]? = u.heap[k]?) : HS v vL L := by
  obtain ⟨cs, hb⟩ := h.rd.blk
  refine holds_of (own_frame h.ln fun k hk => hv k (own_ltR h.ln hk) fun e => ?_)
  subst e
  exact own_box2 h.ln hb (by decide) hk
theorem nxz_short {L : List (List UInt8)} (hs : ∀ s ∈ L, s.length ≤ 1099511627776) {st : Except (Nat × Int) Nat} {s : List UInt8} {p1 : Nat} (h : nxZ L st = .ok (s, p1)) : s.length ≤ 1099511627776 ∧ p1 ≤ L.length := by
  cases st with
  | error x => cases h
  | ok p =>
    unfold nxZ at h
    dsimp only at h
    by_cases hp : p < L.length
    · rw [nxt_drop hp] at h
      have h2 := hs L[p] (List.getElem_mem hp)
      split at h
      · rename_i h3
        split at h3
        · cases h3
        · cases h3
          cases h
      · rename_i h3
        split at h3
        · cases h3
          cases h
          rw [List.length_dropLast]
          omega
        · cases h3
    · rw [nxt_end (by omega)] at h
      cases h
end Go.Proofs.YtgiojkhmkeocfaaGreatDoor

/- The unified form as texts and as lines: how it is written, how it is read; plain mathematics. -/
set_option maxRecDepth 20000
namespace Go.Proofs.YtgiojkhmkeocfaaGreatDoor
open Ln

/-- a text up to some bytes, and what is behind them -/
def cutS (x : List UInt8) : List UInt8 → Option (List UInt8 × List UInt8)
  | [] => if x.isPrefixOf [] = true then some ([], []) else none
  | c :: t => if x.isPrefixOf (c :: t) = true then some ([], (c :: t).drop x.length) else match cutS x t with
    | none => none
    | some (a, b) => some (c :: a, b)
/-- a number, and a count behind a comma -/
def cntP (s : List UInt8) : Option (Int × Int) := match spB isK s with
  | some (x, _, y) => if Pn.parseE x = 0 ∧ Pn.parseE y = 0 then some (Pn.parseV x, Pn.parseV y) else none
  | none => if Pn.parseE s = 0 then some (Pn.parseV s, 1) else none
/-- may that stand behind a hunk's head? -/
def tlB : List UInt8 → Bool
  | [] => true
  | c :: _ => c == 32
/-- a line that begins a hunk: A, AN, B, BN -/
def uhdP (s : List UInt8) : Option (Int × Int × Int × Int) :=
  if ([64, 64, 32, 45] : List UInt8).isPrefixOf s = true then match cutS [32, 43] (s.drop 4) with
    | none => none
    | some (o, r) => match cutS [32, 64, 64] r with
      | none => none
      | some (f, t) => if tlB t = true then match cntP o, cntP f with
        | some (A, AN), some (B, BN) => some (A, AN, B, BN)
        | _, _ => none else none
  else none
/-- how many old, how many new lines a line with a sign is -/
def tkO (c : UInt8) : Nat := if c = 43 then 0 else 1
def tkN (c : UInt8) : Nat := if c = 45 then 0 else 1
def okC (c : UInt8) : Bool := c == 32 || c == 45 || c == 43
/-- is a line the last one on each of its sides? -/
def uendB (c : UInt8) (a b : Nat) : Bool := (c == 43 || a == 0) && (c == 45 || b == 0)
/-- a line of a hunk, of which a old and b new lines are left -/
def ulnP (a b p : Nat) (ls : List (List UInt8)) : Except (Nat × Int) (Mk × Nat × List (List UInt8)) :=
  match nxt p ls with
  | .error e => .error e
  | .ok ([], _) => .error (p + 1, 3)
  | .ok (c :: t, r) => if okC c = true ∧ tkO c ≤ a ∧ tkN c ≤ b then
      if uendB c (a - tkO c) (b - tkN c) = true ∧ t ≠ [] ∧ pkM r = true then .ok (⟨c.toNat, t⟩, p + 2, r.tail) else .ok (⟨c.toNat, t ++ [10]⟩, p + 1, r)
    else .error (p + 1, 3)
def sgO (m : Mk) : Nat := if m.sg = 43 then 0 else 1
def sgN (m : Mk) : Nat := if m.sg = 45 then 0 else 1
/-- the lines of a hunk -/
def urdP : Nat → Nat → Nat → Nat → List (List UInt8) → Except (Nat × Int) (List Mk × Nat × List (List UInt8))
  | 0, _, _, p, ls => .ok ([], p, ls)
  | n + 1, a, b, p, ls => if a + b = 0 then .ok ([], p, ls) else match ulnP a b p ls with
    | .error e => .error e
    | .ok (m, p1, r) => match urdP n (a - sgO m) (b - sgN m) p1 r with
      | .error e => .error e
      | .ok (l, p2, r2) => .ok (m :: l, p2, r2)
/-- is no line changed? -/
def smB (l : List Mk) : Bool := l.all fun m => decide (m.sg = 32)
/-- a hunk; so many are ahead of it -/
def uhkP (k p : Nat) (ls : List (List UInt8)) : Except (Nat × Int) (Hk × Nat × List (List UInt8)) :=
  match nxt p ls with
  | .error e => .error e
  | .ok (s, r) => match uhdP s with
    | none => .error (p + 1, 3)
    | some (A, AN, B, BN) => if 4096 ≤ k then .error (p + 1, 9) else if A = 0 ∧ 0 < AN ∨ B = 0 ∧ 0 < BN then .error (p + 1, 2) else
      match urdP (AN.toNat + BN.toNat) AN.toNat BN.toNat (p + 1) r with
      | .error e => .error e
      | .ok (l, p1, r1) => if smB l = true then .error (p + 1, 50) else .ok (⟨A, AN, B, BN, l⟩, p1, r1)
/-- does the next line begin with these bytes? -/
def pkU (x : List UInt8) : List (List UInt8) → Bool
  | [] => false
  | s :: _ => x.isPrefixOf s
/-- the hunks of a patch, by as many steps as there are lines; x: the bytes by which a line shows that it begins one -/
def uhsP (x : List UInt8) : Nat → Nat → Nat → List (List UInt8) → Except (Nat × Int) (List Hk × Nat × List (List UInt8))
  | 0, _, p, _ => .error (p + 1, 1)
  | f + 1, k, p, ls => match uhkP k p ls with
    | .error e => .error e
    | .ok (h, p1, r) => if pkU x r = true then match uhsP x f (k + 1) p1 r with
        | .error e => .error e
        | .ok (l, p2, r2) => .ok (h :: l, p2, r2)
      else .ok ([h], p1, r)
/-- all patches -/
def upsP (x : List UInt8) : Nat → Nat → Nat → List (List UInt8) → Except (Nat × Int) (List Pth)
  | 0, _, _, _ => .ok []
  | f + 1, k, p, ls => if ls = [] then .ok [] else match namP [45, 45, 45, 32] p ls with
    | .error e => .error e
    | .ok (n1, r1) => if 64 ≤ k then .error (p + 1, 9) else match namP [43, 43, 43, 32] (p + 1) r1 with
      | .error e => .error e
      | .ok (n2, r2) => match uhsP x (r2.length + 1) 0 (p + 2) r2 with
        | .error e => .error e
        | .ok (hs, p3, r3) => match upsP x f (k + 1) p3 r3 with
          | .error e => .error e
          | .ok l => .ok (⟨n1, n2, hs⟩ :: l)
/-- a text is read -/
def unT (x t : List UInt8) : Except (Nat × Int) (List Pth) := if 1048576 < t.length then .error (0, 9) else upsP x (splitL t).length 0 0 (splitL t)
def atR : List UInt8 := [64, 64]
def atC : List UInt8 := [64, 64, 32, 45]
end Go.Proofs.YtgiojkhmkeocfaaGreatDoor

/- The reference's lines with names of layer 16, read: walked. -/
set_option maxRecDepth 20000
namespace Go.Proofs.YtgiojkhmkeocfaaGreatDoor
open Go.RowKit Go.Proofs.YtgiojkhmkeocfaaGreatDoor.Tx
attribute [local go_sem] ByteArray.extract_mk no_at

set_option maxHeartbeats 1000000 in
theorem rNamed6_f (s : List UInt8) (hs : s.length ≤ 1099511627776) (w : World) (N : Option (List UInt8)) (HN : Hid (namedP s = N)) :
    Calls Tryz.prog 118 #[.string ⟨s.toArray⟩] w fun e w' => e = .returned (.tuple #[.string ⟨(nmV N).toArray⟩, .int .i64 (nmE N)]) ∧ Below w.heap.size w w' := by
  have hc := rNamed_f s hs w N HN
  go_enter Tryz.func118, Tryz.ntmps118
  go_wp2_with fail
  refine hc.mono ?_
  rintro e w1 ⟨rfl, hB⟩
  go_wp2
  go_ret2
  exact ⟨rfl, hB⟩
set_option maxHeartbeats 4000000 in
set_option maxRecDepth 10000 in
theorem hnamed_f {R : Nat} {L : List (List UInt8)} {lo : Option Addr} {lc : Nat} {st : Except (Nat × Int) Nat} (ah : List UInt8) (hah : ah.length = 4) (w : World) (q : RdZ w R (.slice lo L.length lc) st) (hL : HS w (.slice lo L.length lc) L) (hR : ∀ a, lo = some a → a.block ≠ R) (hp : ∀ p, st = .ok p → p ≤ 4398046511104) (hs : ∀ s ∈ L, s.length ≤ 1099511627776) (hsx : ∀ s p1, nxZ L st = .ok (s, p1) → s.length ≤ 1099511627776)
    (Z : Except (Nat × Int) (List UInt8 × Nat)) (HZ : Hid (nmZ ah L st = Z)) :
    Calls Tryz.prog 70 #[.pointer (some ⟨R, 0, none⟩), .string ⟨ah.toArray⟩] w fun x w' => NxQ R (.slice lo L.length lc) Z x w' ∧ w.grownBy w' (some R) := by
  obtain ⟨Y, hY⟩ : ∃ Y, nxZ L st = Y := ⟨_, rfl⟩
  have hn := gNext_f w q hL hR hp hs Y hY
  have hZ := HZ.out
  rw [nmZ_nx, hY] at hZ
  rw [hY] at hsx
  clear HZ hY hL hR hs hp q
  cases Y with
  | error e =>
    obtain ⟨a, z⟩ := e
    dsimp only at hZ
    subst hZ
    go_enter Tryz.func70, Tryz.ntmps70
    go_wp2_with fail
    refine hn.mono ?_
    rintro x w1 ⟨⟨rfl, q1⟩, g1⟩
    have c3 := q1.fe
    have hz : (z != 0) = true := bne_iff_ne.2 q1.2
    unfold feS at c3
    dsimp only at c3
    go_wp2
    go_ret
    exact ⟨⟨rfl, q1⟩, g1⟩
  | ok y =>
    obtain ⟨s, p1⟩ := y
    have hsl := hsx s p1 rfl
    dsimp only at hZ
    clear hsx
    by_cases h1 : ah.isPrefixOf s = true
    · rw [if_pos h1] at hZ
      rw [pre_take, hah, Bool.and_eq_true, decide_eq_true_eq, beq_iff_eq] at h1
      obtain ⟨h2, h3⟩ := h1
      have i1 : ¬ (s.length : Int) < 4 := by omega
      have i2 : (4 : Int) ≤ (s.length : Int) := by omega
      obtain ⟨N, hN⟩ : ∃ N, namedP (s.drop 4) = N := ⟨_, rfl⟩
      have HN : Hid (namedP (s.drop 4) = N) := hN
      rw [hN] at hZ
      have hd := fun w => rNamed6_f (s.drop 4) (by rw [List.length_drop]; omega) w N HN
      have ed : List.take (s.length - 4) (List.drop 4 s) = List.drop 4 s := List.take_of_length_le (by rw [List.length_drop]; omega)
      clear hN HN
      subst h3
      go_enter Tryz.func70, Tryz.ntmps70
      go_wp2_with fail
      refine hn.mono ?_
      rintro x w1 ⟨⟨rfl, q1⟩, g1⟩
      have c3 := q1.fe
      unfold feS at c3
      dsimp only at c3
      go_wp2_with fail
      refine (hd w1).mono ?_
      rintro e w2 ⟨rfl, hB2⟩
      have q2 := q1.low hB2
      have g2 := grown_two g1 (low_grown hB2 _)
      cases N with
      | none =>
        subst hZ
        unfold nmV nmE
        go_wp2_with fail
        refine (gFail_f 253 (by decide) w2 q2).mono ?_
        rintro e w3 ⟨rfl, q3, g3⟩
        go_wp2
        go_ret
        exact ⟨⟨rfl, q3⟩, grown_two g2 g3⟩
      | some n =>
        subst hZ
        unfold nmV nmE
        go_wp2
        go_ret
        exact ⟨⟨rfl, q2⟩, g2⟩
    · rw [if_neg h1] at hZ
      subst hZ
      rw [pre_take, hah] at h1
      by_cases h2 : s.length < 4
      · have i1 : (s.length : Int) < 4 := by omega
        clear h1
        go_enter Tryz.func70, Tryz.ntmps70
        go_wp2_with fail
        refine hn.mono ?_
        rintro x w1 ⟨⟨rfl, q1⟩, g1⟩
        have c3 := q1.fe
        unfold feS at c3
        dsimp only at c3
        go_wp2_with fail
        refine (gFail_f 3 (by decide) w1 q1).mono ?_
        rintro e w3 ⟨rfl, q3, g3⟩
        go_wp2
        go_ret
        exact ⟨⟨rfl, q3⟩, grown_two g1 g3⟩
      · have i1 : ¬ (s.length : Int) < 4 := by omega
        have i2 : (4 : Int) ≤ (s.length : Int) := by omega
        have j1 : (s.take 4 == ah) = false := (by
          rw [decide_eq_true (by omega), Bool.true_and, beq_iff_eq] at h1
          exact beq_eq_false_iff_ne.2 h1)
        clear h1
        go_enter Tryz.func70, Tryz.ntmps70
        go_wp2_with fail
        refine hn.mono ?_
        rintro x w1 ⟨⟨rfl, q1⟩, g1⟩
        have c3 := q1.fe
        unfold feS at c3
        dsimp only at c3
        go_wp2_with fail
        refine (gFail_f 3 (by decide) w1 q1).mono ?_
        rintro e w3 ⟨rfl, q3, g3⟩
        go_wp2
        go_ret
        exact ⟨⟨rfl, q3⟩, grown_two g1 g3⟩
end Go.Proofs.YtgiojkhmkeocfaaGreatDoor

/- The unified form: hunks and patches are read as they were written; plain mathematics. -/
set_option maxRecDepth 20000
namespace Go.Proofs.YtgiojkhmkeocfaaGreatDoor
open Ln

theorem pk_len43 {m : Mk} (h : okS m.sg = true) (l : List Mk) : (pkL 43 (m :: l)).length = sgO m + (pkL 43 l).length := by
  unfold sgO
  simp only [pkL]
  by_cases e : m.sg = 43
  · rw [if_neg (fun q => q.1 e), if_pos e]
    omega
  · rw [if_pos ⟨e, h⟩, if_neg e, List.length_cons]
    omega
theorem pk_len45 {m : Mk} (h : okS m.sg = true) (l : List Mk) : (pkL 45 (m :: l)).length = sgN m + (pkL 45 l).length := by
  unfold sgN
  simp only [pkL]
  by_cases e : m.sg = 45
  · rw [if_neg (fun q => q.1 e), if_pos e]
    omega
  · rw [if_pos ⟨e, h⟩, if_neg e, List.length_cons]
    omega
/-- a right patch that has hunks -/
structure Gu (p : Pth) : Prop where
  ne : p.hs ≠ []
  old : p.old.length ≤ 64
  new : p.new.length ≤ 64
  few : p.hs.length ≤ 4096
  gd : ∀ h ∈ p.hs, chkH h = 0
end Go.Proofs.YtgiojkhmkeocfaaGreatDoor

/- The unified form: what is read of a text are right patches, and their texts are read again as the same; it does not matter by how many bytes a line shows that it begins a hunk; plain mathematics. -/
set_option maxRecDepth 20000
namespace Go.Proofs.YtgiojkhmkeocfaaGreatDoor
open Ln

theorem okc_cases {c : UInt8} (h : okC c = true) : c = 32 ∨ c = 45 ∨ c = 43 := by
  simp only [okC, Bool.or_eq_true, beq_iff_eq] at h
  rcases h with (h | h) | h
  · exact .inl h
  · exact .inr (.inl h)
  · exact .inr (.inr h)
theorem tk_sg {c : UInt8} (h : okC c = true) (t : List UInt8) : okS (⟨c.toNat, t⟩ : Mk).sg = true ∧ sgO ⟨c.toNat, t⟩ = tkO c ∧ sgN ⟨c.toNat, t⟩ = tkN c ∧ ((c == 43) = decide (((c.toNat : Nat) : Int) = 43)) ∧ ((c == 45) = decide (((c.toNat : Nat) : Int) = 45)) := by
  unfold sgO sgN
  rcases okc_cases h with rfl | rfl | rfl <;> exact ⟨rfl, rfl, rfl, rfl, rfl⟩
theorem uln_ok {a b p p1 : Nat} {ls r : List (List UInt8)} {m : Mk} (hP : Plain ls) (h : ulnP a b p ls = .ok (m, p1, r)) : linB m.tx = true ∧ okS m.sg = true ∧ sgO m ≤ a ∧ sgN m ≤ b ∧ (fdB m.tx = false → (m.sg = 43 ∨ a - sgO m = 0) ∧ (m.sg = 45 ∨ b - sgN m = 0)) ∧ Plain r ∧ ls.length + p = r.length + p1 ∧ r.length < ls.length := by
  unfold ulnP at h
  split at h
  · cases h
  · cases h
  · rename_i c t r0 hn
    have hls := nxt_ok hn
    obtain ⟨a1, a2⟩ := nxt_len hP hn
    have hct : ∀ d ∈ t, d ≠ 10 := by
      have h0 := hP ((c :: t) ++ [10]) (by rw [hls]; simp)
      rw [List.dropLast_concat] at h0
      exact fun d hd => h0 d (by simp [hd])
    split at h
    · rename_i hc
      obtain ⟨hc1, hc2, hc3⟩ := hc
      split at h
      · rename_i he
        cases h
        obtain ⟨s1, s2, s3, s4, s5⟩ := tk_sg hc1 t
        obtain ⟨he1, he2, he3⟩ := he
        have hlen : r0.tail.length + 1 = r0.length := by
          cases r0 with
          | nil => exact absurd he3 (by decide)
          | cons => simp
        refine ⟨lin_bare hct he2, s1, by rw [s2]; exact hc2, by rw [s3]; exact hc3, fun _ => ?_, fun y hy => a2 y (List.mem_of_mem_tail hy), by omega, by omega⟩
        unfold uendB at he1
        rw [s4, s5] at he1
        simp only [Bool.and_eq_true, Bool.or_eq_true, decide_eq_true_eq, beq_iff_eq] at he1
        rw [s2, s3]
        exact he1
      · cases h
        obtain ⟨s1, s2, s3, s4, s5⟩ := tk_sg hc1 (t ++ [10])
        refine ⟨lin_feed hct, s1, by rw [s2]; exact hc2, by rw [s3]; exact hc3, fun hf => ?_, a2, by omega, by omega⟩
        rw [fd_snoc] at hf
        cases hf
    · cases h
theorem urd_ok (n : Nat) : ∀ {a b p p1 : Nat} {ls r : List (List UInt8)} {l : List Mk}, Plain ls → a + b ≤ n → urdP n a b p ls = .ok (l, p1, r) → (∀ m ∈ l, linB m.tx = true ∧ okS m.sg = true) ∧ (pkL 43 l).length = a ∧ (pkL 45 l).length = b ∧ abl (pkL 43 l) = true ∧ abl (pkL 45 l) = true ∧ Plain r ∧ ls.length + p = r.length + p1 ∧ r.length ≤ ls.length := by
  induction n with
  | zero =>
    intro a b p p1 ls r l hP hn h
    simp only [urdP] at h
    cases h
    refine ⟨fun m hm => (by cases hm), ?_, ?_, rfl, rfl, hP, rfl, Nat.le_refl _⟩
    · simp only [pkL, List.length_nil]; omega
    · simp only [pkL, List.length_nil]; omega
  | succ n ih =>
    intro a b p p1 ls r l hP hn h
    simp only [urdP] at h
    split at h
    · cases h
      refine ⟨fun m hm => (by cases hm), ?_, ?_, rfl, rfl, hP, rfl, Nat.le_refl _⟩
      · simp only [pkL, List.length_nil]; omega
      · simp only [pkL, List.length_nil]; omega
    · split at h
      · cases h
      · rename_i m q1 r1 h1
        obtain ⟨a1, a2, a3, a4, a5, a6, a7, a8⟩ := uln_ok hP h1
        split at h
        · cases h
        · rename_i l2 q2 r2 h2
          have hs : 1 ≤ sgO m + sgN m := by
            unfold sgO sgN
            by_cases e : m.sg = 43
            · rw [if_neg (by omega : ¬ m.sg = 45)]
              omega
            · rw [if_neg e]
              omega
          obtain ⟨b1, b2, b3, b4, b5, b6, b7, b8⟩ := ih a6 (by omega) h2
          cases h
          have k43 := pk_len43 a2 l2
          have k45 := pk_len45 a2 l2
          refine ⟨?_, by omega, by omega, ?_, ?_, b6, by omega, by omega⟩
          · intro x hx
            rcases List.mem_cons.1 hx with rfl | hx
            · exact ⟨a1, a2⟩
            · exact b1 x hx
          · simp only [pkL]
            split
            · rename_i hq
              simp only [abl, Bool.and_eq_true, Bool.or_eq_true]
              refine ⟨?_, b4⟩
              cases hf : fdB m.tx with
              | true => exact .inr rfl
              | false =>
                rcases (a5 hf).1 with e | e
                · exact absurd e hq.1
                · left
                  have : (pkL 43 l2).length = 0 := by omega
                  simpa using this
            · exact b4
          · simp only [pkL]
            split
            · rename_i hq
              simp only [abl, Bool.and_eq_true, Bool.or_eq_true]
              refine ⟨?_, b5⟩
              cases hf : fdB m.tx with
              | true => exact .inr rfl
              | false =>
                rcases (a5 hf).2 with e | e
                · exact absurd e hq.1
                · left
                  have : (pkL 45 l2).length = 0 := by omega
                  simpa using this
            · exact b5
theorem cnt_ok {s : List UInt8} {q n : Int} (h : cntP s = some (q, n)) : 0 ≤ q ∧ q ≤ 2147483647 ∧ 0 ≤ n ∧ n ≤ 2147483647 := by
  unfold cntP at h
  split at h
  · rename_i x c y _
    split at h
    · cases h
      have h1 := prs_num (s := x)
      have h2 := prs_num (s := y)
      omega
    · cases h
  · split at h
    · cases h
      have h1 := prs_num (s := s)
      omega
    · cases h
theorem uhd_ok {s : List UInt8} {A AN B BN : Int} (h : uhdP s = some (A, AN, B, BN)) : (0 ≤ A ∧ A ≤ 2147483647 ∧ 0 ≤ AN ∧ AN ≤ 2147483647) ∧ (0 ≤ B ∧ B ≤ 2147483647 ∧ 0 ≤ BN ∧ BN ≤ 2147483647) := by
  unfold uhdP at h
  split at h
  · split at h
    · cases h
    · split at h
      · cases h
      · split at h
        · split at h
          · rename_i h1 h2
            cases h
            exact ⟨cnt_ok h1, cnt_ok h2⟩
          · cases h
        · cases h
  · cases h
theorem uhk_ok {k p p1 : Nat} {ls r : List (List UInt8)} {h : Hk} (hP : Plain ls) (hh : uhkP k p ls = .ok (h, p1, r)) : chkH h = 0 ∧ Plain r ∧ ls.length + p = r.length + p1 ∧ r.length < ls.length ∧ k < 4096 := by
  unfold uhkP at hh
  split at hh
  · cases hh
  · rename_i s r0 hn
    obtain ⟨a1, a2⟩ := nxt_len hP hn
    split at hh
    · cases hh
    · rename_i A AN B BN hd
      obtain ⟨d1, d2⟩ := uhd_ok hd
      split at hh
      · cases hh
      · rename_i hk
        split at hh
        · cases hh
        · rename_i hz
          split at hh
          · cases hh
          · rename_i l q1 r1 h1
            obtain ⟨b1, b2, b3, b4, b5, b6, b7, b8⟩ := urd_ok _ a2 (Nat.le_refl _) h1
            split at hh
            · cases hh
            · rename_i hs
              cases hh
              refine ⟨?_, b6, by omega, by omega, by omega⟩
              have hfld : fldB l = true := (fld_iff l).2 ⟨b1, b4, b5⟩
              have hrng : rngB ⟨A, AN, B, BN, l⟩ = true := by
                simp only [rngB, nat31, Bool.and_eq_true, Bool.not_eq_true', Bool.and_eq_false_iff, decide_eq_true_eq, decide_eq_false_iff_not]
                omega
              unfold chkH
              rw [if_neg (by rw [hrng]; decide), if_neg (by rw [hfld]; decide), if_neg, if_neg (show ¬ ((l.all fun m => decide (m.sg = 32)) = true) from hs)]
              show ¬ (AN ≠ ((pkL 43 l).length : Int) ∨ BN ≠ ((pkL 45 l).length : Int))
              omega
theorem uhs_ok {x : List UInt8} (f : Nat) : ∀ {k p p1 : Nat} {ls r : List (List UInt8)} {hs : List Hk}, Plain ls → uhsP x f k p ls = .ok (hs, p1, r) → hs ≠ [] ∧ (∀ h ∈ hs, chkH h = 0) ∧ k + hs.length ≤ 4096 ∧ Plain r ∧ ls.length + p = r.length + p1 ∧ r.length < ls.length ∧ pkU x r = false := by
  induction f with
  | zero => intro k p p1 ls r hs _ h; cases h
  | succ f ih =>
    intro k p p1 ls r hs hP h
    simp only [uhsP] at h
    split at h
    · cases h
    · rename_i h0 q1 r1 h1
      obtain ⟨a1, a2, a3, a4, a5⟩ := uhk_ok hP h1
      split at h
      · split at h
        · cases h
        · rename_i l q2 r2 h2
          obtain ⟨b1, b2, b3, b4, b5, b6, b7⟩ := ih a2 h2
          cases h
          refine ⟨by simp, ?_, by simp only [List.length_cons]; omega, b4, by omega, by omega, b7⟩
          intro y hy
          rcases List.mem_cons.1 hy with rfl | hy
          · exact a1
          · exact b2 y hy
      · rename_i hp
        cases h
        refine ⟨by simp, ?_, by simp only [List.length_cons, List.length_nil]; omega, a2, a3, a4, by simpa using hp⟩
        intro y hy
        rw [List.mem_singleton.1 hy]
        exact a1
theorem ups_ok {x : List UInt8} (f : Nat) : ∀ {k p : Nat} {ls : List (List UInt8)} {L : List Pth}, Plain ls → upsP x f k p ls = .ok L → (∀ q ∈ L, Gu q) ∧ (k + L.length ≤ 64 ∨ L = []) := by
  induction f with
  | zero =>
    intro k p ls L _ h
    simp only [upsP] at h
    cases h
    exact ⟨fun q hq => (by cases hq), .inr rfl⟩
  | succ f ih =>
    intro k p ls L hP h
    simp only [upsP] at h
    split at h
    · cases h
      exact ⟨fun q hq => (by cases hq), .inr rfl⟩
    · split at h
      · cases h
      · rename_i n1 r1 h1
        obtain ⟨a1, a2, a3⟩ := nam_ok hP h1
        split at h
        · cases h
        · rename_i hk
          split at h
          · cases h
          · rename_i n2 r2 h2
            obtain ⟨b1, b2, b3⟩ := nam_ok a3 h2
            split at h
            · cases h
            · rename_i hs p3 r3 h3
              obtain ⟨c1, c2, c3, c4, c5, c6, _⟩ := uhs_ok _ b3 h3
              split at h
              · cases h
              · rename_i l h4
                obtain ⟨d1, d2⟩ := ih c4 h4
                cases h
                refine ⟨?_, .inl ?_⟩
                · intro q hq
                  rcases List.mem_cons.1 hq with rfl | hq
                  · exact ⟨c1, a1, b1, by show hs.length ≤ 4096; omega, c2⟩
                  · exact d1 q hq
                · rcases d2 with d2 | rfl
                  · simp only [List.length_cons]
                    omega
                  · simp only [List.length_cons, List.length_nil]
                    omega
/-- what is read are right patches -/
theorem un_right {x t : List UInt8} {L : List Pth} (h : unT x t = .ok L) : (∀ q ∈ L, Gu q) ∧ L.length ≤ 64 := by
  unfold unT at h
  split at h
  · cases h
  · obtain ⟨a1, a2⟩ := ups_ok _ (split_plain t) h
    refine ⟨a1, ?_⟩
    rcases a2 with a2 | rfl
    · omega
    · exact Nat.zero_le _
/- by two bytes, or by four -/
theorem uhk_bad {s : List UInt8} {r : List (List UInt8)} (h : atC.isPrefixOf s = false) (k p : Nat) : uhkP k p (s :: r) = .error (p + 1, 3) := by
  unfold uhkP
  simp only [nxt]
  split
  · rename_i h0
    split at h0
    · cases h0
    · cases h0
      rfl
  · rename_i u q h0
    split at h0
    · rename_i hf
      cases h0
      have : uhdP s.dropLast = none := by
        unfold uhdP
        rw [if_neg]
        intro hq
        have e := fd_form hf
        rw [e] at h
        have : ([64, 64, 32, 45] : List UInt8).isPrefixOf (s.dropLast ++ [10]) = true := by
          rw [List.isPrefixOf_iff_prefix] at hq ⊢
          exact hq.trans (List.prefix_append _ _)
        unfold atC at h
        rw [this] at h
        cases h
      rw [this]
    · cases h0
theorem nam_bad {s : List UInt8} {r : List (List UInt8)} (h : atR.isPrefixOf s = true) (p : Nat) : namP [45, 45, 45, 32] p (s :: r) = .error (p + 1, 3) := by
  unfold namP
  simp only [nxt]
  split
  · rename_i h0
    split at h0
    · cases h0
    · cases h0
      rfl
  · rename_i u q h0
    split at h0
    · rename_i hf
      cases h0
      rw [if_neg]
      intro hq
      rw [List.isPrefixOf_iff_prefix] at h hq
      obtain ⟨y, hy⟩ := h
      obtain ⟨z, hz⟩ := hq
      have e := fd_form hf
      rw [← hz] at e
      rw [← hy] at e
      simp [atR] at e
    · cases h0
theorem pku_both {r : List (List UInt8)} (h : pkU atC r = true) : pkU atR r = true := by
  cases r with
  | nil => cases h
  | cons s r =>
    simp only [pkU] at h ⊢
    rw [List.isPrefixOf_iff_prefix] at h ⊢
    exact (by decide : atR <+: atC).trans h
/-- the hunks of a patch, by two bytes: the same, or what stands behind them is refused -/
theorem uhs_both (f : Nat) : ∀ (k p : Nat) (ls : List (List UInt8)), ls.length < f → Plain ls → uhsP atR f k p ls = uhsP atC f k p ls ∨ ∃ hs p1 s r, uhsP atC f k p ls = .ok (hs, p1, s :: r) ∧ uhsP atR f k p ls = .error (p1 + 1, 3) ∧ atR.isPrefixOf s = true := by
  induction f with
  | zero => intro k p ls h; omega
  | succ f ih =>
    intro k p ls hf hP
    simp only [uhsP]
    cases h1 : uhkP k p ls with
    | error e => exact .inl rfl
    | ok v =>
      obtain ⟨h0, q1, r1⟩ := v
      obtain ⟨a1, a2, a3, a4, a5⟩ := uhk_ok hP h1
      simp only
      cases hc : pkU atC r1 with
      | true =>
        rw [if_pos (pku_both hc), if_pos rfl]
        rcases ih (k + 1) q1 r1 (by omega) a2 with e | ⟨hs, p1, s, r, e1, e2, e3⟩
        · rw [e]
          exact .inl rfl
        · rw [e1, e2]
          exact .inr ⟨h0 :: hs, p1, s, r, rfl, rfl, e3⟩
      | false =>
        rw [if_neg (by decide : ¬ (false = true))]
        cases hr : pkU atR r1 with
        | false => exact .inl rfl
        | true =>
          rw [if_pos rfl]
          cases r1 with
          | nil => cases hr
          | cons s r =>
            have e1 : uhsP atR f (k + 1) q1 (s :: r) = .error (q1 + 1, 3) := by
              cases f with
              | zero => omega
              | succ f =>
                simp only [uhsP]
                rw [uhk_bad hc]
            rw [e1]
            exact .inr ⟨[h0], q1, s, r, rfl, rfl, hr⟩
theorem ups_both (f : Nat) : ∀ (k p : Nat) (ls : List (List UInt8)), ls.length ≤ f → Plain ls → upsP atR f k p ls = upsP atC f k p ls := by
  induction f with
  | zero => intro k p ls h _; rfl
  | succ f ih =>
    intro k p ls hf hP
    simp only [upsP]
    split
    · rfl
    · cases h1 : namP [45, 45, 45, 32] p ls with
      | error e => rfl
      | ok v =>
        obtain ⟨n1, r1⟩ := v
        obtain ⟨a1, a2, a3⟩ := nam_ok hP h1
        simp only
        split
        · rfl
        · cases h2 : namP [43, 43, 43, 32] (p + 1) r1 with
          | error e => rfl
          | ok v =>
            obtain ⟨n2, r2⟩ := v
            obtain ⟨b1, b2, b3⟩ := nam_ok a3 h2
            simp only
            rcases uhs_both (r2.length + 1) 0 (p + 2) r2 (by omega) b3 with e | ⟨hs, p1, s, r, e1, e2, e3⟩
            · rw [e]
              cases h3 : uhsP atC (r2.length + 1) 0 (p + 2) r2 with
              | error e => rfl
              | ok v =>
                obtain ⟨hs, p3, r3⟩ := v
                obtain ⟨c1, c2, c3, c4, c5, c6, _⟩ := uhs_ok _ b3 h3
                simp only
                rw [ih (k + 1) p3 r3 (by omega) c4]
            · rw [e1, e2]
              obtain ⟨c1, c2, c3, c4, c5, c6, _⟩ := uhs_ok _ b3 e1
              simp only [List.length_cons] at c6
              simp only
              cases f with
              | zero => omega
              | succ f =>
                simp only [upsP]
                rw [if_neg (by simp), nam_bad e3]
/-- both ways of reading are one -/
theorem un_both (t : List UInt8) : unT atR t = unT atC t := by
  unfold unT
  split
  · rfl
  · exact ups_both _ 0 0 _ (Nat.le_refl _) (split_plain t)
end Go.Proofs.YtgiojkhmkeocfaaGreatDoor

/- The unified form as the code reads it: what strings.Cut tells of a head; plain mathematics. -/
set_option maxRecDepth 20000
namespace Go.Proofs.YtgiojkhmkeocfaaGreatDoor
open Ln

theorem cut_lib {x : List UInt8} (hx : x ≠ []) (s : List UInt8) : (Lib.index s x = -1 ∧ cutS x s = none) ∨ ∃ k : Nat, Lib.index s x = (k : Int) ∧ cutS x s = some (s.take k, s.drop (k + x.length)) := by
  induction s with
  | nil =>
    left
    cases x with
    | nil => exact absurd rfl hx
    | cons c t => exact ⟨rfl, rfl⟩
  | cons c t ih =>
    unfold Lib.index cutS
    by_cases h : x.isPrefixOf (c :: t) = true
    · rw [if_pos h, if_pos h]
      exact .inr ⟨0, rfl, by simp⟩
    · rw [if_neg h, if_neg h]
      rcases ih with ⟨e1, e2⟩ | ⟨k, e1, e2⟩
      · rw [e1, e2]
        exact .inl ⟨rfl, rfl⟩
      · rw [e1, e2]
        refine .inr ⟨k + 1, ?_, ?_⟩
        · rw [if_neg (by simp)]
          simp
        · have e : k + 1 + x.length = (k + x.length) + 1 := by omega
          rw [e]
          simp
/-- what strings.Cut answers -/
def ctA (x s : List UInt8) : List UInt8 := match cutS x s with | none => s | some (a, _) => a
def ctB (x s : List UInt8) : List UInt8 := match cutS x s with | none => [] | some (_, b) => b
def ctK (x s : List UInt8) : Bool := (cutS x s).isSome
theorem cut_code {x : List UInt8} (hx : x ≠ []) (s : List UInt8) : Lib.cut s x = (ctA x s, ctB x s, ctK x s) := by
  unfold Lib.cut ctA ctB ctK
  rcases cut_lib hx s with ⟨e1, e2⟩ | ⟨k, e1, e2⟩
  · rw [e1, e2, if_neg (by decide)]
    rfl
  · rw [e1, e2, if_pos (by omega)]
    simp
theorem ct_some {x s : List UInt8} (h : ctK x s = true) : cutS x s = some (ctA x s, ctB x s) := by
  unfold ctK at h
  unfold ctA ctB
  cases hq : cutS x s with
  | none => rw [hq] at h; cases h
  | some p => rfl
theorem ct_none {x s : List UInt8} (h : ctK x s = false) : cutS x s = none := by
  unfold ctK at h
  cases hq : cutS x s with
  | none => rfl
  | some p => rw [hq] at h; cases h
theorem cut_len (x s : List UInt8) : (ctA x s).length ≤ s.length ∧ (ctB x s).length ≤ s.length := by
  by_cases hx : x = []
  · subst hx
    unfold ctA ctB
    cases s with
    | nil => exact ⟨Nat.le_refl _, Nat.le_refl _⟩
    | cons c t => exact ⟨by simp [cutS], by simp [cutS]⟩
  · unfold ctA ctB
    rcases cut_lib hx s with ⟨_, e2⟩ | ⟨k, _, e2⟩
    · rw [e2]
      exact ⟨Nat.le_refl _, by simp⟩
    · rw [e2]
      exact ⟨by simp only [List.length_take]; omega, by simp only [List.length_drop]; omega⟩
/-- a head as the code reads it -/
theorem uhd_code {s o f : List UInt8} {a an b bn : Int} {ra rb : Bool} {hd : Bool} {s1 s2 t : List UInt8} (hh : ([64, 64, 32, 45] : List UInt8).isPrefixOf s = hd) (h1 : hd = true → s1 = s.drop 4) (ho : ctA [32, 43] s1 = o) (h2 : ctB [32, 43] s1 = s2) (hf : ctA [32, 64, 64] s2 = f) (ht : ctB [32, 64, 64] s2 = t)
    (ca : cntP o = if ra = true then some (a, an) else none) (cb : cntP f = if rb = true then some (b, bn) else none) :
    uhdP s = if (hd && (ctK [32, 43] s1 && (ctK [32, 64, 64] s2 && (ra && (rb && tlB t))))) = true then some (a, an, b, bn) else none := by
  unfold uhdP
  rw [hh]
  cases hd with
  | false => rfl
  | true =>
    rw [if_pos rfl, ← h1 rfl]
    cases hk : ctK [32, 43] s1 with
    | false => rw [ct_none hk]; rfl
    | true =>
      rw [ct_some hk, ho, h2]
      dsimp only
      cases hk2 : ctK [32, 64, 64] s2 with
      | false => rw [ct_none hk2]; rfl
      | true =>
        rw [ct_some hk2, hf, ht]
        dsimp only
        cases htl : tlB t with
        | false => simp
        | true =>
          rw [if_pos rfl, ca, cb]
          cases ra <;> cases rb <;> rfl
/-- a count as the code reads it -/
theorem cnt_code16 (s : List UInt8) : cntP s = if Pn.parseE (kA s) = 0 then (if kS s = true then (if Pn.parseE (kB s) = 0 then some (Pn.parseV (kA s), Pn.parseV (kB s)) else none) else some (Pn.parseV (kA s), 1)) else none := by
  unfold cntP
  cases hk : kS s with
  | false =>
    obtain ⟨e1, e2⟩ := kA_self hk
    rw [e2, e1]
    rfl
  | true =>
    obtain ⟨c, e⟩ := kS_some hk
    rw [e]
    dsimp only
    by_cases h1 : Pn.parseE (kA s) = 0
    · by_cases h2 : Pn.parseE (kB s) = 0
      · rw [if_pos ⟨h1, h2⟩, if_pos h1, if_pos rfl, if_pos h2]
      · rw [if_neg (fun q => h2 q.2), if_pos h1, if_pos rfl, if_neg h2]
    · rw [if_neg (fun q => h1 q.1), if_neg h1]
end Go.Proofs.YtgiojkhmkeocfaaGreatDoor

/- The reference's counts and cuts of layer 16, walked. -/
set_option maxRecDepth 20000
namespace Go.Proofs.YtgiojkhmkeocfaaGreatDoor
open Go.RowKit Go.Proofs.YtgiojkhmkeocfaaGreatDoor.Tx
attribute [local go_sem] ByteArray.extract_mk no_at

/-- what counted answers -/
def CdQ (s : List UInt8) (e : Ending) : Prop := ∃ x n r, e = .returned (.tuple #[.int .i64 x, .int .i64 n, .bool r]) ∧ cntP s = (if r = true then some (x, n) else none) ∧ 0 ≤ x ∧ x ≤ 2147483647 ∧ 0 ≤ n ∧ n ≤ 2147483647
theorem ucnt_at {s : List UInt8} {k : Nat} (hk : k < s.length) (h1 : isK s[k] = true) (h2 : ∀ j (hj : j < k), isK (s[j]'(by omega)) = false) {x y : List UInt8} (hx : s.take k = x) (hy : s.drop (k + 1) = y) : cntP s = if Pn.parseE x = 0 ∧ Pn.parseE y = 0 then some (Pn.parseV x, Pn.parseV y) else none := by
  unfold cntP
  rw [spB_at s k hk h1 h2]
  dsimp only
  rw [hx, hy]
theorem ucnt_off {s : List UInt8} (h2 : ∀ j (hj : j < s.length), isK s[j] = false) : cntP s = if Pn.parseE s = 0 then some (Pn.parseV s, 1) else none := by
  unfold cntP
  rw [spB_off s h2]
set_option maxHeartbeats 4000000 in
theorem rcounted_f (s : List UInt8) (hs : s.length ≤ 1099511627776) (w : World) :
    Calls Tryz.prog 175 #[.string ⟨s.toArray⟩] w fun x w' => CdQ s x ∧ Below w.heap.size w w' := by
  go_enter Tryz.func175, Tryz.ntmps175
  go_wp2
  go_loopw [5] (fun i wr => ∃ k : Nat, k ≤ s.length ∧ i = .int .i64 (k : Int) ∧ Hid (∀ j (_ : j < k) (hj : j < s.length), isK s[j] = false) ∧ wr = w) (fun i _ => s.length - (intOf i).toNat)
  case atStart => exact ⟨0, Nat.zero_le _, rfl, fun j hj => by omega, rfl⟩
  case round =>
    obtain ⟨k, hk, rfl, HK, rfl⟩ := hrel
    by_cases hlt : k < s.length
    · have i1 : 0 ≤ (k : Int) := by omega
      have i2 : (k : Int) < (s.length : Int) := by omega
      by_cases hc : s[k] = 44
      · have hb : ((s[k].toNat : Int) == 44) = true := by rw [hc]; rfl
        have HE : Hid (isK s[k] = true) := (by show _ = _; unfold isK; rw [hc]; rfl)
        obtain ⟨x, hx⟩ : ∃ x, s.take k = x := ⟨_, rfl⟩
        obtain ⟨y, hy⟩ : ∃ y, s.drop (k + 1) = y := ⟨_, rfl⟩
        have hxl : x.length ≤ 1099511627776 := (by rw [← hx, List.length_take]; omega)
        have hy3 : y.take (s.length - (k + 1)) = y := List.take_of_length_le (by rw [← hy, List.length_drop]; omega)
        have i3 : (k : Int) + 1 ≤ (s.length : Int) := by omega
        have i4 : ((k : Int) + 1).toNat = k + 1 := by omega
        have hyl : y.length ≤ 1099511627776 := (by rw [← hy, List.length_drop]; omega)
        have hm := ucnt_at hlt HE.out (fun j hj => HK.out j hj (by omega)) hx hy
        obtain ⟨v1, hv1⟩ : ∃ v, Pn.parseV x = v := ⟨_, rfl⟩
        obtain ⟨e1, he1⟩ : ∃ e, Pn.parseE x = e := ⟨_, rfl⟩
        obtain ⟨v2, hv2⟩ : ∃ v, Pn.parseV y = v := ⟨_, rfl⟩
        obtain ⟨e2, he2⟩ : ∃ e, Pn.parseE y = e := ⟨_, rfl⟩
        rw [hv1, he1, hv2, he2] at hm
        have b1 := @prs_num x
        have b2 := @prs_num y
        rw [hv1] at b1
        rw [hv2] at b2
        have HB12 : Hid (0 ≤ v1 ∧ v1 ≤ 2147483647 ∧ 0 ≤ v2 ∧ v2 ≤ 2147483647) := ⟨b1.1, b1.2, b2.1, b2.2⟩
        clear b1 b2
        have hrx := rParse_f x
        have hry := rParse_f y
        rw [hv1, he1] at hrx
        rw [hv2, he2] at hry
        have HM : Hid (cntP s = if e1 = 0 ∧ e2 = 0 then some (v1, v2) else none) := hm
        clear hm HK HE hc hv1 he1 hv2 he2
        go_wp2_with fail
        refine (hrx _ (by unfold maxLen; omega)).mono ?_
        rintro e' w1 ⟨rfl, hb1⟩
        go_wp2_with fail
        refine (hry _ (by unfold maxLen; omega)).mono ?_
        rintro e' w2 ⟨rfl, hb2⟩
        have hB := hb1.trans (hb2.mono hb1.size)
        by_cases h1 : e1 = 0
        · have g1 : (e1 == 0) = true := by rw [h1]; rfl
          have HN : Hid (cntP s = if (e2 == 0) = true then some (v1, v2) else none) := (by
            show _ = _
            rw [HM.out]
            simp [h1])
          clear HM h1
          go_wp2
          go_ret3
          exact ⟨⟨_, _, _, rfl, HN.out, HB12.out⟩, hB⟩
        · have g1 : (e1 == 0) = false := beq_eq_false_iff_ne.2 h1
          have HN : Hid (cntP s = none) := (by show _ = _; rw [HM.out, if_neg (fun q => h1 q.1)])
          clear HM h1
          go_wp2
          go_ret3
          exact ⟨⟨_, _, _, rfl, HN.out, HB12.out⟩, hB⟩
      · have hb : ((s[k].toNat : Int) == 44) = false := beq_eq_false_iff_ne.2 (fun h => hc (UInt8.toNat_inj.1 (by show _ = 44; omega)))
        have HE : Hid (isK s[k] = false) := (by show _ = _; unfold isK; simpa using hc)
        go_wp2
        go_roundw
        case rel => exact ⟨k + 1, by omega, by go_num, fun j hj hj2 => (by
            rcases Nat.lt_or_ge j k with h | h
            · exact HK.out j h hj2
            · have : j = k := by omega
              subst this
              exact HE.out), trivial⟩
        case measure => simp [intOf]; omega
    · have ek : k = s.length := by omega
      subst ek
      obtain ⟨v, hv⟩ : ∃ v, Pn.parseV s = v := ⟨_, rfl⟩
      obtain ⟨z, hz⟩ : ∃ e, Pn.parseE s = e := ⟨_, rfl⟩
      have hm := ucnt_off (fun j hj => HK.out j hj hj)
      rw [hv, hz] at hm
      have HM : Hid (cntP s = if (z == 0) = true then some (v, 1) else none) := (by show _ = _; rw [hm]; simp)
      have b1 := @prs_num s
      rw [hv] at b1
      have HB1 : Hid (0 ≤ v ∧ v ≤ 2147483647 ∧ (0 : Int) ≤ 1 ∧ (1 : Int) ≤ 2147483647) := ⟨b1.1, b1.2, by decide, by decide⟩
      clear b1
      have hr := rParse_f s
      rw [hv, hz] at hr
      clear HK hv hz hm
      go_wp2_with fail
      refine (hr _ (by unfold maxLen; omega)).mono ?_
      rintro e' w1 ⟨rfl, hb1⟩
      go_wp2
      go_ret3
      exact ⟨⟨_, _, _, rfl, HM.out, HB1.out⟩, hb1⟩
theorem ucut_at {x : List UInt8} (hx : x ≠ []) : ∀ (s : List UInt8) (k : Nat), k + x.length ≤ s.length → x.isPrefixOf (s.drop k) = true → (∀ j, j < k → x.isPrefixOf (s.drop j) = false) → cutS x s = some (s.take k, s.drop (k + x.length)) := by
  intro s
  induction s with
  | nil =>
    intro k hk
    cases x with
    | nil => exact absurd rfl hx
    | cons c t => simp at hk
  | cons c t ih =>
    intro k hk h1 h2
    unfold cutS
    cases k with
    | zero =>
      rw [List.drop_zero] at h1
      rw [if_pos h1]
      simp
    | succ k =>
      have h0 := h2 0 (by omega)
      rw [List.drop_zero] at h0
      rw [if_neg (by rw [h0]; decide), ih k (by simp only [List.length_cons] at hk; omega) (by simpa using h1) (fun j hj => by have := h2 (j + 1) (by omega); simpa using this)]
      have e : k + 1 + x.length = (k + x.length) + 1 := by omega
      rw [e]
      simp
theorem ucut_off {x : List UInt8} (hx : x ≠ []) : ∀ (s : List UInt8), (∀ j, j + x.length ≤ s.length → x.isPrefixOf (s.drop j) = false) → cutS x s = none := by
  intro s
  induction s with
  | nil =>
    intro _
    cases x with
    | nil => exact absurd rfl hx
    | cons c t => rfl
  | cons c t ih =>
    intro h
    unfold cutS
    have h0 : ¬ x.isPrefixOf (c :: t) = true := by
      intro hp
      have hle := (List.isPrefixOf_iff_prefix.1 hp).length_le
      have := h 0 (by simpa using hle)
      rw [List.drop_zero, hp] at this
      cases this
    rw [if_neg h0, ih (fun j hj => by have := h (j + 1) (by simp only [List.length_cons]; omega); simpa using this)]
theorem upre_take {x s : List UInt8} {k : Nat} (_h : k + x.length ≤ s.length) : (List.take x.length (s.drop k) == x) = x.isPrefixOf (s.drop k) := by
  rw [Bool.eq_iff_iff, beq_iff_eq, List.isPrefixOf_iff_prefix, List.prefix_iff_eq_take]
  exact ⟨fun e => e.symm, fun e => e.symm⟩
set_option maxHeartbeats 4000000 in
theorem rcut_f (s x : List UInt8) (hx : x ≠ []) (hxl : x.length ≤ 100) (hs : s.length ≤ 1099511627776) (w : World) :
    Calls Tryz.prog 174 #[.string ⟨s.toArray⟩, .string ⟨x.toArray⟩] w fun e w' => e = .returned (.tuple #[.string ⟨(ctA x s).toArray⟩, .string ⟨(ctB x s).toArray⟩, .bool (ctK x s)]) ∧ Below w.heap.size w w' := by
  go_enter Tryz.func174, Tryz.ntmps174
  go_wp2
  go_loopw [7] (fun i wr => ∃ k : Nat, k ≤ s.length + 1 ∧ i = .int .i64 (k : Int) ∧ Hid (∀ j, j < k → x.isPrefixOf (s.drop j) = false) ∧ wr = w) (fun i _ => s.length + 1 - (intOf i).toNat)
  case atStart => exact ⟨0, Nat.zero_le _, rfl, fun j hj => by omega, rfl⟩
  case round =>
    obtain ⟨k, hk, rfl, HK, rfl⟩ := hrel
    by_cases hlt : k + x.length ≤ s.length
    · have i1 : 0 ≤ (k : Int) := by omega
      have i2 : (k : Int) + (x.length : Int) ≤ (s.length : Int) := by omega
      have i3 : (k : Int) ≤ (k : Int) + (x.length : Int) := by omega
      have i4 : ((k : Int) + (x.length : Int)).toNat = k + x.length := by omega
      have i5 : k + x.length - k = x.length := by omega
      have i6 : (k : Int) ≤ (s.length : Int) := by omega
      have hp := upre_take hlt
      obtain ⟨b, hb⟩ : ∃ b, x.isPrefixOf (s.drop k) = b := ⟨_, rfl⟩
      rw [hb] at hp
      cases b with
      | true =>
        have HC : Hid (cutS x s = some (s.take k, s.drop (k + x.length))) := ucut_at hx s k hlt hb HK.out
        have HA : Hid (ctA x s = s.take k ∧ ctB x s = s.drop (k + x.length) ∧ ctK x s = true) := (by unfold ctA ctB ctK; rw [HC.out]; exact ⟨rfl, rfl, rfl⟩)
        clear HK HC hb
        go_upto_region 5 with fail
        go_quiet (fail)
        go_wp2
        have HD : Hid (List.take (s.length - (k + x.length)) (s.drop (k + x.length)) = s.drop (k + x.length)) := List.take_of_length_le (by rw [List.length_drop]; omega)
        go_ret3
        exact ⟨by rw [HD.out, HA.out.1, HA.out.2.1, HA.out.2.2]; rfl, Below.dN (Below.refl _ _) nq⟩
      | false =>
        have HE : Hid (x.isPrefixOf (s.drop k) = false) := hb
        clear hb
        go_wp2
        go_roundw
        case rel => exact ⟨k + 1, by omega, by go_num, fun j hj => (by
            rcases Nat.lt_or_ge j k with h | h
            · exact HK.out j h
            · have : j = k := by omega
              subst this
              exact HE.out), trivial⟩
        case measure => simp [intOf]; omega
    · have i1 : ¬ (k : Int) + (x.length : Int) ≤ (s.length : Int) := by omega
      have HC : Hid (cutS x s = none) := ucut_off hx s (fun j hj => HK.out j (by omega))
      have HA : Hid (ctA x s = s ∧ ctB x s = [] ∧ ctK x s = false) := (by unfold ctA ctB ctK; rw [HC.out]; exact ⟨rfl, rfl, rfl⟩)
      clear HK HC
      go_wp2
      go_ret3
      exact ⟨by rw [HA.out.1, HA.out.2.1, HA.out.2.2]; rfl, Below.refl _ _⟩
end Go.Proofs.YtgiojkhmkeocfaaGreatDoor

/- The code's reader of layer 16, walked: what is wrong is thrown; the next line; does a hunk stand next? -/
set_option maxRecDepth 20000
namespace Go.Proofs.YtgiojkhmkeocfaaGreatDoor
open Go.RowKit Go.Proofs.YtgiojkhmkeocfaaGreatDoor.Tx
attribute [local go_sem] ByteArray.extract_mk no_at

/-- a reader: its lines, how many are read -/
def ukO (vL : Value) (p : Int) : Obj := .cells #[vL, .int .i64 p] 126
def Uk (u : World) (R : Nat) (vL : Value) (p : Int) : Prop := u.heap[R]? = some (ukO vL p)
section
variable {u u' : World} {R : Nat} {vL : Value} {p : Int}
theorem Uk.cells (q : Uk u R vL p) : u.cell? ⟨R, 0, none⟩ = some vL ∧ u.cell? ⟨R, 1, none⟩ = some (.int .i64 p) := by
  unfold Uk ukO at q
  refine ⟨?_, ?_⟩ <;> rw [Lib.cell_of_heap q] <;> rfl
theorem Uk.frozen (q : Uk u R vL p) (j : Nat) : u.frozen? ⟨R, j, none⟩ = false := Lib.frozen_of_heap q j
theorem Uk.lt (q : Uk u R vL p) : R < u.heap.size := (Array.getElem?_eq_some_iff.1 q).1
theorem Uk.dN (q : Uk u R vL p) (n : Nat) : Uk (u.drewN n) R vL p := q
theorem Uk.at (q : Uk u R vL p) (p' : Int) : Uk (u.setCell ⟨R, 1, none⟩ (.int .i64 p')) R vL p' := heap_setCell_same u R 1 _ _ (.int .i64 p') q
theorem Uk.low (q : Uk u R vL p) (hg : Below u.heap.size u u') : Uk u' R vL p := (hg.block R q.lt).trans q
theorem Uk.keep (q : Uk u R vL p) {g : Option Nat} (hg : u.grownBy u' g) (hr : some R ≠ g) : Uk u' R vL p := (hg.block R q.lt hr).trans q
end
set_option maxHeartbeats 1000000 in
theorem uthrow_f (a z : Int) (w : World) :
    Calls Tryz.prog 170 #[.int .i64 a, .int .i64 z] w fun x w' => Thr a z x w' ∧ Below w.heap.size w w' := by
  have HQ : Hid ((w.alloc (fltO a z)).heap[w.heap.size]? = some (fltO a z) ∧ Below w.heap.size w (w.alloc (fltO a z))) := ⟨heap_alloc_new w _, (Below.refl _ w).alloc (Nat.le_refl _) _⟩
  go_enter Tryz.func170, Tryz.ntmps170
  go_wp2
  exact ⟨rfl, ⟨_, rfl, HQ.out.1⟩, HQ.out.2⟩
set_option maxHeartbeats 1000000 in
theorem urefuse_f {R : Nat} {vL : Value} {p : Nat} (z : Int) (w : World) (q : Uk w R vL (p : Int)) (hp : p ≤ 4398046511104) :
    Calls Tryz.prog 115 #[.pointer (some ⟨R, 0, none⟩), .int .i64 z] w fun x w' => Thr ((p : Int) + 1) z x w' ∧ w.grownBy w' (some R) := by
  obtain ⟨c0, c1⟩ := q.cells
  clear q
  go_enter Tryz.func115, Tryz.ntmps115
  go_wp2_with fail
  refine (uthrow_f ((p : Int) + 1) z w).mono ?_
  rintro x w1 ⟨⟨g, rfl, hg⟩, hb⟩
  go_wp2
  exact ⟨rfl, ⟨_, rfl, hg⟩, low_grown hb _⟩
set_option maxHeartbeats 4000000 in
theorem urline_f {R : Nat} {L : List (List UInt8)} {lo : Option Addr} {lc : Nat} {p : Nat} (w : World) (q : Uk w R (.slice lo L.length lc) p) (hL : HS w (.slice lo L.length lc) L) (hp : p ≤ L.length) (hLl : L.length ≤ 2199023255552) (hs : ∀ s ∈ L, s.length ≤ 1099511627776)
    (X : Except (Nat × Int) (List UInt8 × List (List UInt8))) (HX : Hid (nxt p (L.drop p) = X)) :
    Calls Tryz.prog 168 #[.pointer (some ⟨R, 0, none⟩)] w fun x w' => LnQ R (.slice lo L.length lc) p X w x w' := by
  have hX := HX.out
  clear HX
  by_cases hlt : p < L.length
  · rw [nxt_drop hlt] at hX
    obtain ⟨bk, off, rfl, hbk, hcl⟩ := HS.at hL (by omega)
    have d4 := hcl p hlt
    have hsl := hs L[p] (List.getElem_mem _)
    generalize L[p] = s at d4 hsl hX
    clear hcl hs hL
    obtain ⟨c0, c1⟩ := q.cells
    have e0 : ((p : Int) == (L.length : Int)) = false := beq_eq_false_iff_ne.2 (by omega)
    have i1 : (0 : Int) ≤ (p : Int) := by omega
    have i2 : (p : Int) < (L.length : Int) := by omega
    have i3 : (p : Int).toNat = p := by omega
    cases hf : fdB s with
    | true =>
      rw [if_pos hf] at hX
      subst hX
      have HD : Hid (s.dropLast ++ [10] = s) := drop_feed hf
      clear q
      go_enter Tryz.func168, Tryz.ntmps168
      go_wp2_with fail
      go_quiet (fail)
      go_wp2_with fail
      have c0' : (w.drewN nq).cell? ⟨R, 0, none⟩ = _ := c0
      have c1' : (w.drewN nq).cell? ⟨R, 1, none⟩ = _ := c1
      have d4' : (w.drewN nq).cell? ⟨bk, off + p, none⟩ = _ := d4
      have HM : Hid (∀ n, ∃ k, (w.drewN nq).drewN n = w.drewN k) := fun n => ⟨_, World.drewN_drewN w nq n⟩
      clear c0 c1 d4
      generalize w.drewN nq = W1 at c0' c1' d4' HM ⊢
      have j1 : (0 : Int) ≤ (p : Int) := by omega
      have j2 : (p : Int) < (L.length : Int) := by omega
      have j3 : (p : Int).toNat = p := by omega
      go_quiet (fail)
      go_wp2_with fail
      refine (Tryz.strings_HasSuffix ⟨s.toArray⟩ ⟨#[10]⟩ _ (by show s.length ≤ _; omega)).mono ?_
      rintro e w2 ⟨rfl, rfl⟩
      have e1 : Lib.hasSuffix (⟨s.toArray⟩ : ByteArray).data.toList (⟨#[10]⟩ : ByteArray).data.toList = true := (suf_feed s).trans hf
      rw [e1]
      clear e1 hf
      go_wp2
      go_ret
      refine ⟨?_, HM.out _⟩
      rw [HD.out]
      rfl
    | false =>
      rw [if_neg (by rw [hf]; decide)] at hX
      subst hX
      have q0 := q
      clear q
      go_enter Tryz.func168, Tryz.ntmps168
      go_wp2_with fail
      go_quiet (fail)
      go_wp2_with fail
      have c0' : (w.drewN nq).cell? ⟨R, 0, none⟩ = _ := c0
      have c1' : (w.drewN nq).cell? ⟨R, 1, none⟩ = _ := c1
      have d4' : (w.drewN nq).cell? ⟨bk, off + p, none⟩ = _ := d4
      have HM : Hid (∀ n, w.grownBy ((w.drewN nq).drewN n) (some R)) := fun n => grown_drewN (grown_drewN (low_grown (Below.refl _ _) _) nq) n
      have HQ : Hid (∀ n, Uk ((w.drewN nq).drewN n) R (.slice (some ⟨bk, off, none⟩) L.length lc) p) := fun n => (q0.dN nq).dN n
      clear c0 c1 d4 q0
      generalize w.drewN nq = W1 at c0' c1' d4' HM HQ ⊢
      have j1 : (0 : Int) ≤ (p : Int) := by omega
      have j2 : (p : Int) < (L.length : Int) := by omega
      have j3 : (p : Int).toNat = p := by omega
      go_quiet (fail)
      go_wp2_with fail
      refine (Tryz.strings_HasSuffix ⟨s.toArray⟩ ⟨#[10]⟩ _ (by show s.length ≤ _; omega)).mono ?_
      rintro e w2 ⟨rfl, rfl⟩
      have e1 : Lib.hasSuffix (⟨s.toArray⟩ : ByteArray).data.toList (⟨#[10]⟩ : ByteArray).data.toList = false := (suf_feed s).trans hf
      rw [e1]
      clear e1 hf
      go_wp2_with fail
      refine (urefuse_f 3 _ (HQ.out _) (by omega)).mono ?_
      rintro e w3 ⟨⟨g, rfl, hg⟩, hgr⟩
      go_wp2
      exact ⟨rfl, ⟨_, rfl, hg⟩, grown_two (HM.out _) hgr⟩
  · rw [nxt_end (by omega)] at hX
    subst hX
    obtain ⟨c0, c1⟩ := q.cells
    have e0 : ((p : Int) == (L.length : Int)) = true := beq_iff_eq.2 (by omega)
    have HM : Hid (∀ n, w.grownBy (w.drewN n) (some R)) := fun n => grown_drewN (low_grown (Below.refl _ _) _) n
    have HQ : Hid (∀ n, Uk (w.drewN n) R (.slice lo L.length lc) p) := fun n => q.dN n
    clear q hs hL
    go_enter Tryz.func168, Tryz.ntmps168
    go_wp2_with fail
    go_quiet (fail)
    go_wp2_with fail
    refine (urefuse_f 1 _ (HQ.out _) (by omega)).mono ?_
    rintro e w3 ⟨⟨g, rfl, hg⟩, hgr⟩
    go_wp2
    exact ⟨rfl, ⟨_, rfl, hg⟩, grown_two (HM.out _) hgr⟩
theorem pkU_at {L : List (List UInt8)} {p : Nat} (h : p < L.length) : pkU atC (L.drop p) = atC.isPrefixOf L[p] := by
  rw [List.drop_eq_getElem_cons h]
  rfl
set_option maxHeartbeats 4000000 in
theorem uatHunk_f {R : Nat} {L : List (List UInt8)} {lo : Option Addr} {lc : Nat} {p : Nat} (w : World) (q : Uk w R (.slice lo L.length lc) p) (hL : HS w (.slice lo L.length lc) L) (hp : p ≤ L.length) (hLl : L.length ≤ 2199023255552) (r : Bool) (HR : Hid (pkU atC (L.drop p) = r)) :
    Calls Tryz.prog 116 #[.pointer (some ⟨R, 0, none⟩)] w fun x w' => x = .returned (.bool r) ∧ ∃ n, w' = w.drewN n := by
  obtain ⟨c0, c1⟩ := q.cells
  by_cases hlt : p < L.length
  · obtain ⟨bk, off, rfl, hbk, hcl⟩ := HS.at hL (by omega)
    have d4 := hcl p hlt
    have HR2 := HR.out
    rw [pkU_at hlt] at HR2
    generalize L[p] = s at d4 HR2
    have hd : decide ((p : Int) < (L.length : Int)) = true := decide_eq_true (by omega)
    have i1 : (0 : Int) ≤ (p : Int) := by omega
    have i2 : (p : Int) < (L.length : Int) := by omega
    have i3 : (p : Int).toNat = p := by omega
    have hhp : ∀ u, Calls Tryz.prog 149 #[.string ⟨s.toArray⟩, .string ⟨atC.toArray⟩] u fun e w' => e = .returned (.bool r) ∧ w' = u := (by
      intro u
      refine (Tryz.strings_HasPrefix ⟨s.toArray⟩ ⟨atC.toArray⟩ u).mono ?_
      rintro e w' ⟨rfl, rfl⟩
      have e1 : Lib.hasPrefix (⟨s.toArray⟩ : ByteArray).data.toList (⟨atC.toArray⟩ : ByteArray).data.toList = r := HR2
      rw [e1]
      exact ⟨rfl, rfl⟩)
    clear hcl hL q HR HR2
    go_enter Tryz.func116, Tryz.ntmps116
    go_wp2_with fail
    go_quiet ((go_at_call 149; exact Calls.quiet_of_same (hhp _)))
    go_wp2
    go_ret
    exact ⟨rfl, _, rfl⟩
  · have HE : Hid (false = r) := (by have h := HR.out; rw [List.drop_of_length_le (by omega)] at h; exact h)
    have hd : decide ((p : Int) < (L.length : Int)) = false := decide_eq_false (by omega)
    clear hL q HR
    go_enter Tryz.func116, Tryz.ntmps116
    go_wp2_with fail
    go_quiet (fail)
    go_wp2
    go_ret
    exact ⟨by rw [← HE.out]; rfl, _, rfl⟩
set_option maxHeartbeats 1000000 in
theorem uNamed_f (s : List UInt8) (w : World) (hl : s.length ≤ 1099511627776) (n : List UInt8) (r : Bool) (HN : Hid (unC s = n)) (HR : Hid (nokC s = r)) :
    Calls Tryz.prog 169 #[.string ⟨s.toArray⟩] w fun e w' => e = .returned (pnV r n) ∧ Below w.heap.size w w' := by
  have hf := cnamed_f s w hl n r HN HR
  cases r with
  | true =>
    have hf2 : Calls Tryz.prog 146 #[.string ⟨s.toArray⟩] w fun e w' => e = .returned (.tuple #[.string ⟨n.toArray⟩, .int .i64 0]) ∧ Below w.heap.size w w' := hf
    clear hf
    go_enter Tryz.func169, Tryz.ntmps169
    go_wp2_with fail
    refine hf2.mono ?_
    rintro e w1 ⟨rfl, hB⟩
    go_wp2
    go_ret2
    exact ⟨rfl, hB⟩
  | false =>
    have hf2 : Calls Tryz.prog 146 #[.string ⟨s.toArray⟩] w fun e w' => e = .returned (.tuple #[.string ⟨#[]⟩, .int .i64 253]) ∧ Below w.heap.size w w' := hf
    clear hf
    go_enter Tryz.func169, Tryz.ntmps169
    go_wp2_with fail
    refine hf2.mono ?_
    rintro e w1 ⟨rfl, hB⟩
    go_wp2
    go_ret2
    exact ⟨rfl, hB⟩
end Go.Proofs.YtgiojkhmkeocfaaGreatDoor

/- The code's reader of layer 16, walked: a name -/
set_option maxRecDepth 20000
namespace Go.Proofs.YtgiojkhmkeocfaaGreatDoor
open Go.RowKit Go.Proofs.YtgiojkhmkeocfaaGreatDoor.Tx
attribute [local go_sem] ByteArray.extract_mk no_at

set_option maxHeartbeats 4000000 in
theorem unm_f {R : Nat} {L : List (List UInt8)} {lo : Option Addr} {lc : Nat} {p : Nat} (hd : List UInt8) (h4 : hd.length = 4) (w : World) (q : Uk w R (.slice lo L.length lc) p) (hL : HS w (.slice lo L.length lc) L) (hp : p ≤ L.length) (hLl : L.length ≤ 2199023255552) (hs : ∀ s ∈ L, s.length ≤ 1099511627776)
    (X : Except (Nat × Int) (List UInt8 × List (List UInt8))) (HX : Hid (namP hd p (L.drop p) = X)) :
    Calls Tryz.prog 114 #[.pointer (some ⟨R, 0, none⟩), .string ⟨hd.toArray⟩] w fun x w' => NmX R X w x w' := by
  obtain ⟨Y, hY⟩ : ∃ Y, nxt p (L.drop p) = Y := ⟨_, rfl⟩
  have hl := urline_f w q hL hp hLl hs Y hY
  have hX := HX.out
  unfold namP at hX
  rw [hY] at hX
  clear HX
  cases Y with
  | error z =>
    obtain ⟨a, e⟩ := z
    dsimp only at hX
    subst hX
    go_enter Tryz.func114, Tryz.ntmps114
    go_wp2_with fail
    refine hl.mono ?_
    rintro x w1 ⟨⟨g, rfl, hg⟩, hgr⟩
    go_wp2
    exact ⟨rfl, ⟨_, rfl, hg⟩, hgr⟩
  | ok z =>
    obtain ⟨s, r⟩ := z
    dsimp only at hX
    have hsl : s.length ≤ 1099511627776 := (by
      obtain ⟨_, hpl, _, hLp⟩ := nxt_rest hY
      have hsl := hs L[p] (List.getElem_mem hpl)
      rw [hLp, List.length_append] at hsl
      omega)
    have hl2 : Calls Tryz.prog 168 #[.pointer (some ⟨R, 0, none⟩)] w fun x w' => x = .returned (.string ⟨(s ++ [10]).toArray⟩) ∧ ∃ n, w' = w.drewN n := hl
    obtain ⟨sf, hsf⟩ : ∃ t, s ++ [10] = t := ⟨_, rfl⟩
    have hsfl : sf.length ≤ 1099511627777 := (by rw [← hsf, List.length_append]; simp only [List.length_cons, List.length_nil]; omega)
    have hts : Lib.trimSuffix sf [10] = s := (by rw [← hsf]; exact trim_snoc s)
    rw [hsf] at hl2
    have HTr : Hid (∀ u, Calls Tryz.prog 137 #[.string ⟨sf.toArray⟩, .string ⟨#[10]⟩] u fun e w' => e = .returned (.string ⟨s.toArray⟩) ∧ w' = u) := (by
      intro u
      refine (Tryz.strings_TrimSuffix ⟨sf.toArray⟩ ⟨#[10]⟩ u (by show sf.length ≤ _; omega)).mono ?_
      rintro e w' ⟨rfl, rfl⟩
      have e1 : Lib.trimSuffix (⟨sf.toArray⟩ : ByteArray).data.toList (⟨#[10]⟩ : ByteArray).data.toList = s := hts
      rw [e1]
      exact ⟨rfl, rfl⟩)
    obtain ⟨pr, hpr⟩ : ∃ b, hd.isPrefixOf s = b := ⟨_, rfl⟩
    rw [hpr] at hX
    have HCp : Hid (∀ u, Calls Tryz.prog 167 #[.string ⟨s.toArray⟩, .string ⟨hd.toArray⟩] u fun e w' => e = .returned (.tuple #[.string ⟨(if pr = true then s.drop 4 else s).toArray⟩, .bool pr]) ∧ w' = u) := (by
      intro u
      refine (Tryz.strings_CutPrefix ⟨s.toArray⟩ ⟨hd.toArray⟩ u).mono ?_
      rintro e w' ⟨rfl, rfl⟩
      have e1 : Lib.hasPrefix (⟨s.toArray⟩ : ByteArray).data.toList (⟨hd.toArray⟩ : ByteArray).data.toList = pr := hpr
      have e2 : Lib.trimPrefix (⟨s.toArray⟩ : ByteArray).data.toList (⟨hd.toArray⟩ : ByteArray).data.toList = if pr = true then s.drop 4 else s := (by
        show (if Lib.hasPrefix s hd = true then s.drop hd.length else s) = _
        rw [show Lib.hasPrefix s hd = pr from hpr, h4])
      rw [e1, e2]
      exact ⟨rfl, rfl⟩)
    clear hY hl hpr hsf hts hsfl
    cases pr with
    | true =>
      rw [if_pos rfl] at hX
      have HCp2 : Hid (∀ u, Calls Tryz.prog 167 #[.string ⟨s.toArray⟩, .string ⟨hd.toArray⟩] u fun e w' => e = .returned (.tuple #[.string ⟨(s.drop 4).toArray⟩, .bool true]) ∧ w' = u) := HCp
      clear HCp
      have hdl : (s.drop 4).length ≤ 1099511627776 := (by rw [List.length_drop]; omega)
      generalize s.drop 4 = t at hX HCp2 hdl
      rw [named_code] at hX
      obtain ⟨n, hn⟩ : ∃ n, unC t = n := ⟨_, rfl⟩
      obtain ⟨b, hb⟩ : ∃ b, nokC t = b := ⟨_, rfl⟩
      have hf := fun u => uNamed_f t u hdl n b hn hb
      rw [hn, hb] at hX
      clear hn hb
      cases b with
      | true =>
        rw [if_pos rfl] at hX
        dsimp only at hX
        subst hX
        have hf2 : ∀ u, Calls Tryz.prog 169 #[.string ⟨t.toArray⟩] u fun e w' => e = .returned (.tuple #[.string ⟨n.toArray⟩, .int .i64 0]) ∧ Below u.heap.size u w' := hf
        clear hf
        go_enter Tryz.func114, Tryz.ntmps114
        go_wp2_with fail
        refine hl2.mono ?_
        rintro x w1 ⟨rfl, nn, rfl⟩
        go_wp2_with fail
        refine (HTr.out _).mono ?_
        rintro x w2 ⟨rfl, rfl⟩
        go_wp2_with fail
        refine (HCp2.out _).mono ?_
        rintro x w3 ⟨rfl, rfl⟩
        go_wp2_with fail
        refine (hf2 _).mono ?_
        rintro x w4 ⟨rfl, hB2⟩
        go_wp2
        go_ret
        exact ⟨rfl, (Below.dN (Below.refl _ w) nn).trans hB2⟩
      | false =>
        rw [if_neg (by decide)] at hX
        dsimp only at hX
        subst hX
        have q2 := fun nn => q.dN nn
        have hf2 : ∀ u, Calls Tryz.prog 169 #[.string ⟨t.toArray⟩] u fun e w' => e = .returned (.tuple #[.string ⟨#[]⟩, .int .i64 253]) ∧ Below u.heap.size u w' := hf
        clear hf
        go_enter Tryz.func114, Tryz.ntmps114
        go_wp2_with fail
        refine hl2.mono ?_
        rintro x w1 ⟨rfl, nn, rfl⟩
        go_wp2_with fail
        refine (HTr.out _).mono ?_
        rintro x w2 ⟨rfl, rfl⟩
        go_wp2_with fail
        refine (HCp2.out _).mono ?_
        rintro x w3 ⟨rfl, rfl⟩
        go_wp2_with fail
        refine (hf2 _).mono ?_
        rintro x w4 ⟨rfl, hB2⟩
        have q3 := (q2 nn).low hB2
        go_wp2_with fail
        refine (urefuse_f 253 _ q3 (by omega)).mono ?_
        rintro e w5 ⟨⟨g, rfl, hg⟩, hgr⟩
        go_wp2
        exact ⟨rfl, ⟨_, rfl, by simpa using hg⟩, grown_two (low_grown ((Below.dN (Below.refl _ w) nn).trans hB2) _) hgr⟩
    | false =>
      rw [if_neg (by decide)] at hX
      subst hX
      have HCp2 : Hid (∀ u, Calls Tryz.prog 167 #[.string ⟨s.toArray⟩, .string ⟨hd.toArray⟩] u fun e w' => e = .returned (.tuple #[.string ⟨s.toArray⟩, .bool false]) ∧ w' = u) := HCp
      clear HCp
      have q2 := fun nn => q.dN nn
      go_enter Tryz.func114, Tryz.ntmps114
      go_wp2_with fail
      refine hl2.mono ?_
      rintro x w1 ⟨rfl, nn, rfl⟩
      go_wp2_with fail
      refine (HTr.out _).mono ?_
      rintro x w2 ⟨rfl, rfl⟩
      go_wp2_with fail
      refine (HCp2.out _).mono ?_
      rintro x w3 ⟨rfl, rfl⟩
      go_wp2_with fail
      refine (urefuse_f 3 _ (q2 nn) (by omega)).mono ?_
      rintro e w5 ⟨⟨g, rfl, hg⟩, hgr⟩
      go_wp2
      exact ⟨rfl, ⟨_, rfl, by simpa using hg⟩, grown_two (grown_drewN (low_grown (Below.refl w.heap.size w) (some R)) nn) hgr⟩
end Go.Proofs.YtgiojkhmkeocfaaGreatDoor

/- The code's head of a hunk (layer 16), walked: numbers, begun. -/
set_option maxRecDepth 20000
namespace Go.Proofs.YtgiojkhmkeocfaaGreatDoor
open Go.RowKit Go.Proofs.YtgiojkhmkeocfaaGreatDoor.Tx
attribute [local go_sem] ByteArray.extract_mk no_at

/-- internal/bytealg.MaxLen holds a number -/
def Mxl (w : World) : Prop := ∃ m, w.cell? ⟨1, 0, none⟩ = some (.int .i64 m)
theorem Mxl.low {w w' : World} (h : Mxl w) (hb : Below w.heap.size w w') : Mxl w' := by
  obtain ⟨m, h⟩ := h
  exact ⟨m, (World.cell?_of_block (hb.block _ (block_lt_of_cell h))).trans h⟩
theorem Mxl.keep {w w' : World} {R : Nat} (h : Mxl w) (hg : w.grownBy w' (some R)) (hR : 1 < R) : Mxl w' := by
  obtain ⟨m, h⟩ := h
  exact ⟨m, (World.cell?_of_block (hg.block _ (block_lt_of_cell h) (fun e => by have := Option.some.inj e; simp at this; omega))).trans h⟩
/-- strings.Cut at any bytes -/
theorem uCut_f (x s : List UInt8) (hx : x ≠ []) (w : World) (hl : s.length ≤ 1099511627) (hm : Mxl w) :
    Calls Tryz.prog 244 #[.string ⟨s.toArray⟩, .string ⟨x.toArray⟩] w fun e w' => e = .returned (.tuple #[.string ⟨(ctA x s).toArray⟩, .string ⟨(ctB x s).toArray⟩, .bool (ctK x s)]) ∧ ∃ n, w' = w.drewN n := by
  obtain ⟨m, hm⟩ := hm
  refine (Tryz.strings_Cut ⟨s.toArray⟩ ⟨x.toArray⟩ m w (by show s.length < _; omega) hm).mono ?_
  rintro e w' ⟨rfl, hw⟩
  have h := cut_code hx s
  have e1 : Lib.cut (⟨s.toArray⟩ : ByteArray).data.toList (⟨x.toArray⟩ : ByteArray).data.toList = (ctA x s, ctB x s, ctK x s) := h
  rw [e1]
  exact ⟨rfl, hw⟩
/-- what numbers answers -/
def NuQ (w : World) (s : List UInt8) (e : Ending) (w' : World) : Prop := ∃ x n r, e = .returned (.tuple #[.int .i64 x, .int .i64 n, .bool r]) ∧ cntP s = (if r = true then some (x, n) else none) ∧ Below w.heap.size w w'
set_option maxHeartbeats 2000000 in
theorem unumbers_f (s : List UInt8) (w : World) (hl : s.length ≤ 1099511627776) :
    Calls Tryz.prog 248 #[.string ⟨s.toArray⟩] w fun e w' => NuQ w s e w' := by
  have hkl := kA_le s
  obtain ⟨V1, hV1⟩ : ∃ V, Pn.parseV (kA s) = V := ⟨_, rfl⟩
  obtain ⟨E1, hE1⟩ : ∃ V, Pn.parseE (kA s) = V := ⟨_, rfl⟩
  obtain ⟨V2, hV2⟩ : ∃ V, Pn.parseV (kB s) = V := ⟨_, rfl⟩
  obtain ⟨E2, hE2⟩ : ∃ V, Pn.parseE (kB s) = V := ⟨_, rfl⟩
  have P1 : ∀ u : World, Calls Tryz.prog 245 #[.string ⟨(kA s).toArray⟩] u fun e w' => e = .returned (.tuple #[.int .i64 V1, .int .i64 E1]) ∧ Below u.heap.size u w' := (by
    intro u
    have h := nParse_any (kA s) u (by unfold maxLen; omega)
    rw [hV1, hE1] at h
    exact h)
  have P2 : ∀ u : World, Calls Tryz.prog 245 #[.string ⟨(kB s).toArray⟩] u fun e w' => e = .returned (.tuple #[.int .i64 V2, .int .i64 E2]) ∧ Below u.heap.size u w' := (by
    intro u
    have h := nParse_any (kB s) u (by unfold maxLen; omega)
    rw [hV2, hE2] at h
    exact h)
  have HM : Hid (cntP s = if E1 = 0 then if kS s = true then if E2 = 0 then some (V1, V2) else none else some (V1, 1) else none) := (by
    show _ = _
    rw [cnt_code16, hV1, hE1, hV2, hE2])
  have C1 := nCut_f s w hl
  obtain ⟨ks, hks⟩ : ∃ k, kS s = k := ⟨_, rfl⟩
  rw [hks] at C1 HM
  clear hV1 hE1 hV2 hE2 hks
  by_cases he1 : E1 = 0
  · have f1 : (E1 != 0) = false := by simp [he1]
    have f2 : (E1 == 0) = true := by simp [he1]
    cases ks with
    | false =>
      have HN : Hid (cntP s = some (V1, 1)) := (by have h := HM.out; rw [if_pos he1, if_neg (by decide)] at h; exact h)
      clear HM he1 P2
      go_enter Tryz.func248, Tryz.ntmps248
      go_wp2_with fail
      refine C1.mono ?_
      rintro e w1 ⟨rfl, n, rfl⟩
      go_wp2_with fail
      refine (P1 _).mono ?_
      rintro e w2 ⟨rfl, hb2⟩
      go_wp2
      go_ret3
      exact ⟨_, _, _, rfl, HN.out, (Below.dN (Below.refl _ w) n).trans hb2⟩
    | true =>
      have HN : Hid (cntP s = if (E2 == 0) = true then some (V1, V2) else none) := (by
        have h := HM.out
        rw [if_pos he1, if_pos rfl] at h
        show _ = _
        rw [h]
        simp)
      clear HM he1
      go_enter Tryz.func248, Tryz.ntmps248
      go_wp2_with fail
      refine C1.mono ?_
      rintro e w1 ⟨rfl, n, rfl⟩
      go_wp2_with fail
      refine (P1 _).mono ?_
      rintro e w2 ⟨rfl, hb2⟩
      go_wp2_with fail
      refine (P2 _).mono ?_
      rintro e w3 ⟨rfl, hb3⟩
      have hb23 := (Below.dN (Below.refl _ w) n).trans (hb2.trans (hb3.mono hb2.size))
      go_wp2
      go_ret3
      exact ⟨_, _, _, rfl, HN.out, hb23⟩
  · have f1 : (E1 != 0) = true := by simp [he1]
    have f2 : (E1 == 0) = false := by simp [he1]
    have HN : Hid (cntP s = none) := (by have h := HM.out; rw [if_neg he1] at h; exact h)
    clear HM he1 P2
    go_enter Tryz.func248, Tryz.ntmps248
    go_wp2_with fail
    refine C1.mono ?_
    rintro e w1 ⟨rfl, n, rfl⟩
    go_wp2_with fail
    refine (P1 _).mono ?_
    rintro e w2 ⟨rfl, hb2⟩
    go_wp2
    go_ret3
    exact ⟨_, _, _, rfl, HN.out, (Below.dN (Below.refl _ w) n).trans hb2⟩
end Go.Proofs.YtgiojkhmkeocfaaGreatDoor

/- The code's counts of layer 16, walked: two counts held against one another; what a sign takes; is a line the last one; does the mark stand next? -/
set_option maxRecDepth 20000
namespace Go.Proofs.YtgiojkhmkeocfaaGreatDoor
open Go.RowKit Go.Proofs.YtgiojkhmkeocfaaGreatDoor.Tx
attribute [local go_sem] ByteArray.extract_mk no_at

/-- two counts, as a value, as a variable -/
def ctV (a b : Int) : Value := .agg #[.int .i64 a, .int .i64 b]
def ctO (a b : Int) : Obj := .cells #[.int .i64 a, .int .i64 b] 230
theorem ct_eqIn (x y a b : Int) (u : World) : (Op.equalIn 10000 230 (.agg #[.int .i64 x, .int .i64 y]) (.agg #[.int .i64 a, .int .i64 b])).run Tryz.prog u = .ok (x == a && y == b) u := by
  have hu : Tryz.prog.underlying 230 = some (.array 2 3) := by kernel_rfl
  have h0 : (Tryz.prog.info? 3).isSome = true := by kernel_rfl
  obtain ⟨i, hi⟩ := Option.isSome_iff_exists.1 h0
  rw [run_equalIn_array u 9999 _ _ hu hi]
  have hc : Tryz.prog.cellsOf 3 = 1 := by kernel_rfl
  have hr : List.range 2 = [0, 1] := rfl
  rw [hc, hr]
  have p0 : ∀ (x y : Int) (u : World), (part 3 #[.int .i64 x, .int .i64 y] (0 * 1)).run Tryz.prog u = .ok (.int .i64 x) u := fun _ _ _ => by kernel_rfl
  have p1 : ∀ (x y : Int) (u : World), (part 3 #[.int .i64 x, .int .i64 y] (1 * 1)).run Tryz.prog u = .ok (.int .i64 y) u := fun _ _ _ => by kernel_rfl
  have q1 := run_equalIn_int (P := Tryz.prog) u 9998 3 .i64 .i64 x a Tryz.underlying3
  have q2 := run_equalIn_int (P := Tryz.prog) u 9998 3 .i64 .i64 y b Tryz.underlying3
  simp only [Op.eqItems, Sem.run_bind, p0, p1, q1, q2, Result.andThen_ok, Sem.run_ite, Sem.run_pure]
  cases x == a <;> cases y == b <;> rfl
theorem ct_eql (x y a b : Int) (u : World) : (binOp .eql 230 (.agg #[.int .i64 x, .int .i64 y]) (.agg #[.int .i64 a, .int .i64 b])).run Tryz.prog u = .ok (.bool (x == a && y == b)) u := by
  rw [run_eql_struct, ct_eqIn]
  rfl
theorem ct_neq (x y a b : Int) (u : World) : (binOp .neq 230 (.agg #[.int .i64 x, .int .i64 y]) (.agg #[.int .i64 a, .int .i64 b])).run Tryz.prog u = .ok (.bool (!(x == a && y == b))) u := by
  rw [run_neq_struct, ct_eqIn]
  rfl
/-- what a sign takes, or nothing -/
def cO (c : UInt8) : Int := if okC c = true then (tkO c : Int) else 0
def cN (c : UInt8) : Int := if okC c = true then (tkN c : Int) else 0
set_option maxHeartbeats 2000000 in
theorem ucountsOf_f (c : UInt8) (w : World) :
    Calls Tryz.prog 224 #[.int .u8 (c.toNat : Int)] w fun e w' => e = .returned (ctV (cO c) (cN c)) ∧ Below w.heap.size w w' := by
  have hcn := c.toNat_lt
  have hE : ∀ (x y : Int), cO c = x → cN c = y → ctV (cO c) (cN c) = .agg #[.int .i64 x, .int .i64 y] := (by intro x y h1 h2; rw [h1, h2]; rfl)
  by_cases h1 : c = 32
  · have i1 : ((c.toNat : Int) == 32) = true := (by rw [h1]; rfl)
    have he := hE 1 1 (by rw [h1]; rfl) (by rw [h1]; rfl)
    rw [he]
    clear h1 hE
    go_enter Tryz.func224, Tryz.ntmps224
    go_wp2
    refine bodyPost_ret (v := .agg #[.int .i64 1, .int .i64 1]) (results_cell_row rfl _ _ w.heap.size 230 #[.int .i64 1, .int .i64 1] (0, 0) _ rfl (heap_alloc_new w _) Tryz.underlying230 rfl (by kernel_rfl)) rfl ⟨rfl, (Below.refl _ w).alloc (Nat.le_refl _) _⟩
  · have i1 : ((c.toNat : Int) == 32) = false := beq_eq_false_iff_ne.2 (fun e => h1 (by rw [← UInt8.toNat_inj]; show c.toNat = 32; omega))
    by_cases h2 : c = 45
    · have i2 : ((c.toNat : Int) == 45) = true := (by rw [h2]; rfl)
      have he := hE 1 0 (by rw [h2]; rfl) (by rw [h2]; rfl)
      rw [he]
      clear h1 h2 hE
      go_enter Tryz.func224, Tryz.ntmps224
      go_wp2
      refine bodyPost_ret (v := .agg #[.int .i64 1, .int .i64 0]) (results_cell_row rfl _ _ w.heap.size 230 #[.int .i64 1, .int .i64 0] (0, 0) _ rfl (heap_alloc_new w _) Tryz.underlying230 rfl (by kernel_rfl)) rfl ⟨rfl, (Below.refl _ w).alloc (Nat.le_refl _) _⟩
    · have i2 : ((c.toNat : Int) == 45) = false := beq_eq_false_iff_ne.2 (fun e => h2 (by rw [← UInt8.toNat_inj]; show c.toNat = 45; omega))
      by_cases h3 : c = 43
      · have i3 : ((c.toNat : Int) == 43) = true := (by rw [h3]; rfl)
        have he := hE 0 1 (by rw [h3]; rfl) (by rw [h3]; rfl)
        rw [he]
        clear h1 h2 h3 hE
        go_enter Tryz.func224, Tryz.ntmps224
        go_wp2
        refine bodyPost_ret (v := .agg #[.int .i64 0, .int .i64 1]) (results_cell_row rfl _ _ w.heap.size 230 #[.int .i64 0, .int .i64 1] (0, 0) _ rfl (heap_alloc_new w _) Tryz.underlying230 rfl (by kernel_rfl)) rfl ⟨rfl, (Below.refl _ w).alloc (Nat.le_refl _) _⟩
      · have i3 : ((c.toNat : Int) == 43) = false := beq_eq_false_iff_ne.2 (fun e => h3 (by rw [← UInt8.toNat_inj]; show c.toNat = 43; omega))
        have hk : okC c = false := (by unfold okC; simp [h1, h2, h3])
        have he := hE 0 0 (by unfold cO; rw [hk]; rfl) (by unfold cN; rw [hk]; rfl)
        rw [he]
        clear h1 h2 h3 hk hE
        go_enter Tryz.func224, Tryz.ntmps224
        go_wp2
        refine bodyPost_ret (v := .agg #[.int .i64 0, .int .i64 0]) (results_cell_row rfl _ _ w.heap.size 230 #[.int .i64 0, .int .i64 0] (0, 0) _ rfl (heap_alloc_new w _) Tryz.underlying230 rfl (by kernel_rfl)) rfl ⟨rfl, (Below.refl _ w).alloc (Nat.le_refl _) _⟩
set_option maxHeartbeats 2000000 in
theorem uisLast_f (x y a b : Int) (w : World) (r : Bool) (HR : Hid (((x == 0 || a == 0) && (y == 0 || b == 0)) = r)) :
    Calls Tryz.prog 225 #[.agg #[.int .i64 x, .int .i64 y], .agg #[.int .i64 a, .int .i64 b]] w fun e w' => e = .returned (.bool r) ∧ Below w.heap.size w w' := by
  have hB : Below w.heap.size w ((w.alloc (ctO x y)).alloc (ctO a b)) := ((Below.refl _ w).alloc (Nat.le_refl _) _).alloc (by simp) _
  unfold ctO at hB
  cases h1 : x == 0 with
  | true =>
    cases h2 : y == 0 with
    | true =>
      have HE : Hid (true = r) := (by show _ = _; rw [← HR.out, h1, h2]; rfl)
      clear HR
      go_enter Tryz.func225, Tryz.ntmps225
      go_wp2
      go_ret
      exact ⟨by rw [← HE.out]; rfl, hB⟩
    | false =>
      have HE : Hid ((b == 0) = r) := (by show _ = _; rw [← HR.out, h1, h2]; rfl)
      clear HR
      go_enter Tryz.func225, Tryz.ntmps225
      go_wp2
      go_ret
      exact ⟨by rw [← HE.out]; rfl, hB⟩
  | false =>
    cases h3 : a == 0 with
    | true =>
      cases h2 : y == 0 with
      | true =>
        have HE : Hid (true = r) := (by show _ = _; rw [← HR.out, h1, h2, h3]; rfl)
        clear HR
        go_enter Tryz.func225, Tryz.ntmps225
        go_wp2
        go_ret
        exact ⟨by rw [← HE.out]; rfl, hB⟩
      | false =>
        have HE : Hid ((b == 0) = r) := (by show _ = _; rw [← HR.out, h1, h2, h3]; rfl)
        clear HR
        go_enter Tryz.func225, Tryz.ntmps225
        go_wp2
        go_ret
        exact ⟨by rw [← HE.out]; rfl, hB⟩
    | false =>
      have HE : Hid (false = r) := (by show _ = _; rw [← HR.out, h1, h3]; rfl)
      clear HR
      go_enter Tryz.func225, Tryz.ntmps225
      go_wp2
      go_ret
      exact ⟨by rw [← HE.out]; rfl, hB⟩
set_option maxHeartbeats 4000000 in
theorem uunfed_f {R : Nat} {L : List (List UInt8)} {lo : Option Addr} {lc : Nat} {p : Nat} (w : World) (q : Uk w R (.slice lo L.length lc) p) (hL : HS w (.slice lo L.length lc) L) (hPl : Plain L) (hLl : L.length ≤ 2199023255552)
    (t : List UInt8) (r : Bool) (HR : Hid ((t != [10] && pkM (L.drop p)) = r)) :
    Calls Tryz.prog 226 #[.pointer (some ⟨R, 0, none⟩), .string ⟨t.toArray⟩] w fun x w' => x = .returned (.bool r) ∧ ∃ n, w' = w.drewN n := by
  obtain ⟨c0, c1⟩ := q.cells
  by_cases ht : t = [10]
  · have HE : Hid (false = r) := (by show _ = _; rw [← HR.out, ht]; rfl)
    subst ht
    clear HR hL q
    go_enter Tryz.func226, Tryz.ntmps226
    go_wp2_with fail
    go_quiet (fail)
    go_wp2
    go_ret
    exact ⟨by rw [← HE.out]; rfl, _, rfl⟩
  · have e1 : (t == [10]) = false := beq_eq_false_iff_ne.2 ht
    have e1b : (t != [10]) = true := bne_iff_ne.2 ht
    by_cases hlt : p < L.length
    · have HE : Hid ((L[p] == markT) = r) := (by
        have h := HR.out
        rw [pkM_at hPl hlt, e1b, Bool.true_and] at h
        exact h)
      obtain ⟨bk, off, rfl, hbk, hcl⟩ := HS.at hL (by omega)
      have d4 := hcl p hlt
      generalize L[p] = s at d4 HE
      have HE2 : Hid ((s == [92, 32, 78, 111, 32, 110, 101, 119, 108, 105, 110, 101, 32, 97, 116, 32, 101, 110, 100, 32, 111, 102, 32, 102, 105, 108, 101, 10]) = r) := HE
      have hd : decide ((p : Int) < (L.length : Int)) = true := decide_eq_true (by omega)
      clear HR hL q hcl hPl HE ht
      have i1 : (0 : Int) ≤ (p : Int) := by omega
      have i2 : (p : Int) < (L.length : Int) := by omega
      have i3 : (p : Int).toNat = p := by omega
      go_enter Tryz.func226, Tryz.ntmps226
      go_wp2_with fail
      go_quiet (fail)
      go_wp2
      go_ret
      exact ⟨by rw [← HE2.out]; rfl, _, rfl⟩
    · have HE : Hid (false = r) := (by
        have h := HR.out
        rw [List.drop_of_length_le (by omega), e1b] at h
        exact h)
      have hd : decide ((p : Int) < (L.length : Int)) = false := decide_eq_false (by omega)
      clear HR hL q hPl ht
      go_enter Tryz.func226, Tryz.ntmps226
      go_wp2_with fail
      go_quiet (fail)
      go_wp2
      go_ret
      exact ⟨by rw [← HE.out]; rfl, _, rfl⟩
end Go.Proofs.YtgiojkhmkeocfaaGreatDoor

/- A line of a hunk as the code reads it (layer 16); plain mathematics. -/
set_option maxRecDepth 20000
namespace Go.Proofs.YtgiojkhmkeocfaaGreatDoor
open Ln

theorem snoc_cons (s : List UInt8) : ∃ c t, s ++ [10] = c :: t := by
  cases s with
  | nil => exact ⟨10, [], rfl⟩
  | cons c t => exact ⟨c, t ++ [10], rfl⟩
theorem uln_code {a b p : Nat} {ls r : List (List UInt8)} {s t : List UInt8} {c : UInt8} (hn : nxt p ls = .ok (s, r)) (hs : s ++ [10] = c :: t) : ulnP a b p ls = if okC c = true ∧ tkO c ≤ a ∧ tkN c ≤ b then (if (uendB c (a - tkO c) (b - tkN c) && (t != [10] && pkM r)) = true then .ok (⟨c.toNat, t.dropLast⟩, p + 2, r.tail) else .ok (⟨c.toNat, t⟩, p + 1, r)) else .error (p + 1, 3) := by
  unfold ulnP
  rw [hn]
  cases s with
  | nil =>
    simp only [List.nil_append, List.cons.injEq] at hs
    obtain ⟨rfl, _⟩ := hs
    rfl
  | cons d u =>
    simp only [List.cons_append, List.cons.injEq] at hs
    obtain ⟨rfl, rfl⟩ := hs
    dsimp only
    split
    · rw [List.dropLast_concat]
      have e : (u ++ [10] != [10]) = decide (u ≠ []) := by
        cases u with
        | nil => rfl
        | cons x y =>
          have h1 : ¬ (x :: y ++ [10] = [10]) := by
            intro h
            have := congrArg List.length h
            simp at this
          rw [bne_iff_ne.2 h1]
          rfl
      rw [e]
      by_cases h1 : uendB d (a - tkO d) (b - tkN d) = true
      · by_cases h2 : u = []
        · rw [if_neg (fun q => q.2.1 h2), if_neg (by simp [h2])]
        · by_cases h3 : pkM r = true
          · rw [if_pos ⟨h1, h2, h3⟩, if_pos (by simp [h1, h2, h3])]
          · rw [if_neg (fun q => h3 q.2.2), if_neg (by simp [h3])]
      · rw [if_neg (fun q => h1 q.1), if_neg (by simp [h1])]
    · rfl
theorem c_take {c : UInt8} (h : okC c = true) : cO c = (tkO c : Int) ∧ cN c = (tkN c : Int) ∧ ((cO c == 0) = (c == 43)) ∧ ((cN c == 0) = (c == 45)) ∧ (cO c == 0 && cN c == 0) = false ∧ 0 ≤ cO c ∧ cO c ≤ 1 ∧ 0 ≤ cN c ∧ cN c ≤ 1 := by
  rcases okc_cases h with rfl | rfl | rfl <;> exact ⟨rfl, rfl, rfl, rfl, rfl, by decide, by decide, by decide, by decide⟩
theorem c_none {c : UInt8} (h : okC c = false) : cO c = 0 ∧ cN c = 0 := by
  unfold cO cN
  rw [h]
  exact ⟨rfl, rfl⟩
theorem end_code {c : UInt8} (h : okC c = true) {a b : Nat} {a' b' : Int} (ha : a' = a) (hb : b' = b) : ((cO c == 0 || a' == 0) && (cN c == 0 || b' == 0)) = uendB c a b := by
  obtain ⟨_, _, h1, h2, _⟩ := c_take h
  have e1 : (a' == 0) = (a == 0) := by rw [ha, Bool.eq_iff_iff, beq_iff_eq, beq_iff_eq]; omega
  have e2 : (b' == 0) = (b == 0) := by rw [hb, Bool.eq_iff_iff, beq_iff_eq, beq_iff_eq]; omega
  unfold uendB
  rw [h1, h2, e1, e2]
/-- what is left behind a line -/
theorem left_sg {c : UInt8} (h : okC c = true) (t : List UInt8) : sgO ⟨c.toNat, t⟩ = tkO c ∧ sgN ⟨c.toNat, t⟩ = tkN c := ⟨(tk_sg h t).2.1, (tk_sg h t).2.2.1⟩
end Go.Proofs.YtgiojkhmkeocfaaGreatDoor
