/-
  Texts that belong together, joined: CnShelf, ItMath, CnMath, Kit, CnByte, CnRef, CnRef2, CnSmall, CnBox, CnSteps, CnShelfB, CnLeaf.
-/
import Derived.Shelf.Strings.Repeat
import Derived.Shelf.Strings.SlTrimAscii
import Derived.Shelf.Strings.Trim
import Derived.Shelf.Strings.BuilderK
import Derived.Shelf.Small.Strs
import Derived.Shelf.Small.Wraps
import Derived.Test.YtnlbjknfahhfaaaGreatDoorProg
import Derived.Maps.OwnSet
import Derived.Lib.SlTrimSet
import Derived.Lib.Repeat
import Derived.Lib.FrozenHead2
import Derived.Lib.OthersKept
import Derived.Laws.IdiomStrings
import Derived.Deep.RegionLaw
import Derived.WalkKit
import Derived.WalkSmall
import Derived.WalkSpells
import Derived.WalkLawsBesides
import Derived.Deep.QuietTactic
import Derived.BigQuiet
import Derived.Deep.CutRange
import Derived.Deep.DeepCutAuto

/- Contracts of the library at this program: the program bears the bodies that they speak of. Taken: strings_Repeat, strings_IndexByte, strings_CutSuffix, Builder_String_any_k, Builder_Len_f, strings_TrimRight_one. -/
namespace Go.Proofs
open Go.Shelf
def Tryz.lays170_ren : Go.Shelf.Ren := ⟨fun | 170 => 169 | n => n, fun | 70 => 59 | 3 => 3 | 0 => 0 | 72 => 62 | 37 => 60 | 5 => 5 | n => n, fun | n => n⟩
theorem Tryz.lays170 : Go.Proofs.Lays.n170 Tryz.prog Tryz.lays170_ren := {
  mixed := by kernel_rfl
  f170 := Tryz.func169.trans (congrArg some (by kernel_rfl))
  t0 := Tryz.underlying0
  a0 := Tryz.isAgg0
  z0 := Tryz.sizeOf0
  v0 := Tryz.zeroValue0
  t3 := Tryz.underlying3
  a3 := Tryz.isAgg3
  z3 := Tryz.sizeOf3
  v3 := Tryz.zeroValue3
  t37 := Tryz.underlying60
  a37 := Tryz.isAgg60
  z37 := Tryz.sizeOf60
  v37 := Tryz.zeroValue60
  t70 := Tryz.underlying59
  a70 := Tryz.isAgg59
  z70 := Tryz.sizeOf59
  v70 := Tryz.zeroValue59
  t72 := Tryz.underlying62
  a72 := Tryz.isAgg62
  z72 := Tryz.sizeOf62
  v72 := Tryz.zeroValue62 }
def Tryz.lays169_ren : Go.Shelf.Ren := ⟨fun | 169 => 28 | n => n, fun | 70 => 59 | 9 => 9 | 0 => 0 | 72 => 62 | 37 => 60 | 127 => 104 | 3 => 3 | 5 => 5 | n => n, fun | n => n⟩
theorem Tryz.lays169 : Go.Proofs.Lays.n169 Tryz.prog Tryz.lays169_ren := {
  mixed := by kernel_rfl
  f169 := Tryz.func28.trans (congrArg some (by kernel_rfl))
  t0 := Tryz.underlying0
  a0 := Tryz.isAgg0
  z0 := Tryz.sizeOf0
  v0 := Tryz.zeroValue0
  t3 := Tryz.underlying3
  a3 := Tryz.isAgg3
  z3 := Tryz.sizeOf3
  v3 := Tryz.zeroValue3
  t9 := Tryz.underlying9
  a9 := Tryz.isAgg9
  z9 := Tryz.sizeOf9
  v9 := Tryz.zeroValue9
  t37 := Tryz.underlying60
  a37 := Tryz.isAgg60
  z37 := Tryz.sizeOf60
  v37 := Tryz.zeroValue60
  t70 := Tryz.underlying59
  a70 := Tryz.isAgg59
  z70 := Tryz.sizeOf59
  v70 := Tryz.zeroValue59
  t72 := Tryz.underlying62
  a72 := Tryz.isAgg62
  z72 := Tryz.sizeOf62
  v72 := Tryz.zeroValue62
  t127 := Tryz.underlying104
  a127 := Tryz.isAgg104
  z127 := Tryz.sizeOf104
  v127 := Tryz.zeroValue104 }
theorem Tryz.Builder_Extra_169 : Builder.Extra Tryz.prog Tryz.lays169_ren := {
  sizeBuilder := by kernel_rfl
  liesBuilder := by kernel_rfl
  t5 := Tryz.underlying5
  a5 := Tryz.isAgg5
  z5 := Tryz.sizeOf5
  v5 := Tryz.zeroValue5
  infoByte := by kernel_rfl
  cellsByte := by kernel_rfl
  sizeByte := by kernel_rfl
  neB5 := by decide }
def Tryz.lays162_ren : Go.Shelf.Ren := ⟨fun | 162 => 171 | 232 => 185 | 227 => 186 | 234 => 187 | 236 => 188 | 228 => 193 | 271 => 194 | 151 => 195 | 120 => 197 | 197 => 198 | 152 => 199 | 260 => 200 | 137 => 184 | 119 => 201 | 224 => 68 | 225 => 67 | 217 => 66 | 266 => 93 | n => n, fun | 9 => 9 | 4 => 4 | 3 => 3 | 5 => 5 | 117 => 280 | 116 => 279 | 0 => 0 | 124 => 283 | 21 => 21 | 105 => 286 | 46 => 136 | 119 => 294 | 139 => 297 | 138 => 296 | n => n, fun | 3 => 5 | 4 => 6 | n => n⟩
theorem Tryz.lays162 : Go.Proofs.Lays.n162 Tryz.prog Tryz.lays162_ren := {
  mixed := by kernel_rfl
  f119 := Tryz.func201.trans (congrArg some (by kernel_rfl))
  f120 := Tryz.func197.trans (congrArg some (by kernel_rfl))
  f137 := Tryz.func184.trans (congrArg some (by kernel_rfl))
  f151 := Tryz.func195.trans (congrArg some (by kernel_rfl))
  f152 := Tryz.func199.trans (congrArg some (by kernel_rfl))
  f162 := Tryz.func171.trans (congrArg some (by kernel_rfl))
  f197 := Tryz.func198.trans (congrArg some (by kernel_rfl))
  f217 := Tryz.func66.trans (congrArg some (by kernel_rfl))
  f224 := Tryz.func68.trans (congrArg some (by kernel_rfl))
  f225 := Tryz.func67.trans (congrArg some (by kernel_rfl))
  f227 := Tryz.func186.trans (congrArg some (by kernel_rfl))
  f228 := Tryz.func193.trans (congrArg some (by kernel_rfl))
  f232 := Tryz.func185.trans (congrArg some (by kernel_rfl))
  f234 := Tryz.func187.trans (congrArg some (by kernel_rfl))
  f236 := Tryz.func188.trans (congrArg some (by kernel_rfl))
  f260 := Tryz.func200.trans (congrArg some (by kernel_rfl))
  f266 := Tryz.func93.trans (congrArg some (by kernel_rfl))
  f271 := Tryz.func194.trans (congrArg some (by kernel_rfl))
  t0 := Tryz.underlying0
  a0 := Tryz.isAgg0
  z0 := Tryz.sizeOf0
  v0 := Tryz.zeroValue0
  t3 := Tryz.underlying3
  a3 := Tryz.isAgg3
  z3 := Tryz.sizeOf3
  v3 := Tryz.zeroValue3
  t4 := Tryz.underlying4
  a4 := Tryz.isAgg4
  z4 := Tryz.sizeOf4
  v4 := Tryz.zeroValue4
  t5 := Tryz.underlying5
  a5 := Tryz.isAgg5
  z5 := Tryz.sizeOf5
  v5 := Tryz.zeroValue5
  t9 := Tryz.underlying9
  a9 := Tryz.isAgg9
  z9 := Tryz.sizeOf9
  v9 := Tryz.zeroValue9
  t21 := Tryz.underlying21
  a21 := Tryz.isAgg21
  z21 := Tryz.sizeOf21
  v21 := Tryz.zeroValue21
  t46 := Tryz.underlying136
  a46 := Tryz.isAgg136
  z46 := Tryz.sizeOf136
  v46 := Tryz.zeroValue136
  t105 := Tryz.underlying286
  a105 := Tryz.isAgg286
  z105 := Tryz.sizeOf286
  v105 := Tryz.zeroValue286
  t116 := Tryz.underlying279
  a116 := Tryz.isAgg279
  z116 := Tryz.sizeOf279
  t117 := Tryz.underlying280
  a117 := Tryz.isAgg280
  z117 := Tryz.sizeOf280
  v117 := Tryz.zeroValue280
  t119 := Tryz.underlying294
  a119 := Tryz.isAgg294
  z119 := Tryz.sizeOf294
  t124 := Tryz.underlying283
  a124 := Tryz.isAgg283
  z124 := Tryz.sizeOf283
  v124 := Tryz.zeroValue283
  t138 := Tryz.underlying296
  a138 := Tryz.isAgg296
  z138 := Tryz.sizeOf296
  v138 := Tryz.zeroValue296
  t139 := Tryz.underlying297
  a139 := Tryz.isAgg297
  z139 := Tryz.sizeOf297
  v139 := Tryz.zeroValue297
  g3 := by kernel_rfl
  g4 := by kernel_rfl }
open Go.RowKit in
theorem Tryz.strings_TrimRight_one (s : ByteArray) (c : UInt8) (hc : c.toNat < 128) (w : World) (hs : s.size ≤ 9223372036854775807) :
    Calls Tryz.prog 171 #[.string s, .string ⟨#[c]⟩] w fun e w' => e = .returned (.string ⟨(Lib.trimRightB s.data.toList c).toArray⟩) ∧ w' = w := Any.strings_TrimRight_one Tryz.lays162 s c hc w hs
def Tryz.lays137_ren : Go.Shelf.Ren := ⟨fun | 137 => 184 | 217 => 66 | 266 => 93 | n => n, fun | 9 => 9 | 5 => 5 | 3 => 3 | n => n, fun | n => n⟩
theorem Tryz.lays137 : Go.Proofs.Lays.n137 Tryz.prog Tryz.lays137_ren := {
  mixed := by kernel_rfl
  f137 := Tryz.func184.trans (congrArg some (by kernel_rfl))
  f217 := Tryz.func66.trans (congrArg some (by kernel_rfl))
  f266 := Tryz.func93.trans (congrArg some (by kernel_rfl))
  t3 := Tryz.underlying3
  a3 := Tryz.isAgg3
  z3 := Tryz.sizeOf3
  v3 := Tryz.zeroValue3
  t5 := Tryz.underlying5
  a5 := Tryz.isAgg5
  z5 := Tryz.sizeOf5
  v5 := Tryz.zeroValue5
  t9 := Tryz.underlying9
  a9 := Tryz.isAgg9
  z9 := Tryz.sizeOf9
  v9 := Tryz.zeroValue9 }
open Go.RowKit in
theorem Tryz.strings_IndexByte (s : ByteArray) (c : Int) (w : World) :
    Calls Tryz.prog 184 #[.string s, .int .u8 c] w fun e w' => e = .returned (.int .i64 (Lib.indexByte s.data.toList c.toNat.toUInt8)) ∧ w' = w := Any.strings_IndexByte Tryz.lays137 s c w
def Tryz.lays104_ren : Go.Shelf.Ren := ⟨fun | 104 => 35 | 211 => 62 | 207 => 90 | n => n, fun | 9 => 9 | 4 => 4 | 24 => 43 | 3 => 3 | n => n, fun | n => n⟩
theorem Tryz.lays104 : Go.Proofs.Lays.n104 Tryz.prog Tryz.lays104_ren := {
  mixed := by kernel_rfl
  f104 := Tryz.func35.trans (congrArg some (by kernel_rfl))
  f207 := Tryz.func90.trans (congrArg some (by kernel_rfl))
  f211 := Tryz.func62.trans (congrArg some (by kernel_rfl))
  t3 := Tryz.underlying3
  a3 := Tryz.isAgg3
  z3 := Tryz.sizeOf3
  v3 := Tryz.zeroValue3
  t4 := Tryz.underlying4
  a4 := Tryz.isAgg4
  z4 := Tryz.sizeOf4
  v4 := Tryz.zeroValue4
  t9 := Tryz.underlying9
  a9 := Tryz.isAgg9
  z9 := Tryz.sizeOf9
  v9 := Tryz.zeroValue9
  t24 := Tryz.underlying43
  a24 := Tryz.isAgg43
  z24 := Tryz.sizeOf43
  v24 := Tryz.zeroValue43 }
open Go.RowKit in
theorem Tryz.strings_CutSuffix (s p : ByteArray) (w : World) (hs : s.size ≤ 9223372036854775807) :
    Calls Tryz.prog 35 #[.string s, .string p] w fun e w' => e = .returned (.tuple #[.string ⟨(Lib.trimSuffix s.data.toList p.data.toList).toArray⟩, .bool (Lib.hasSuffix s.data.toList p.data.toList)]) ∧ w' = w := Any.strings_CutSuffix Tryz.lays104 s p w hs
open Go.RowKit in
theorem Tryz.Builder_Len_f (B b : Nat) (bs : List Value) (w : World) (h : Lib.IsBuilderF 62 5 B b bs w) :
    Calls Tryz.prog 169 #[.pointer (some ⟨b, 0, none⟩)] w fun e w' => e = .returned (.int .i64 bs.length) ∧ w' = w := Any.Builder_Len_f Tryz.lays170 B b bs w h
open Go.RowKit in
theorem Tryz.Builder_String_any_k (B b : Nat) (l : List UInt8) (w : World) (h : Lib.IsBuilderF 62 5 B b (Lib.byteCells l) w) (hBw : B ≤ w.heap.size) :
    Calls Tryz.prog 28 #[.pointer (some ⟨b, 0, none⟩)] w fun e w' => e = .returned (.string ⟨l.toArray⟩) ∧ (Lib.IsBuilderF 62 5 B b (Lib.byteCells l) w' ∧ Below B w w' ∧ Lib.OthersKept 5 (some b) w w') := Any.Builder_String_any_k Tryz.lays169 Tryz.Builder_Extra_169 B b l w h hBw
def Tryz.lays105_ren : Go.Shelf.Ren := ⟨fun | 105 => 168 | 212 => 135 | 99 => 183 | 165 => 61 | 166 => 24 | 170 => 169 | 169 => 28 | 263 => 158 | 264 => 159 | 206 => 192 | 240 => 46 | 241 => 89 | 276 => 76 | 277 => 121 | n => n, fun | 9 => 9 | 3 => 3 | 4 => 4 | 20 => 20 | 0 => 0 | 46 => 136 | 109 => 232 | 5 => 5 | 72 => 62 | 76 => 66 | 51 => 175 | 146 => 176 | 53 => 29 | 148 => 259 | 70 => 59 | 37 => 60 | 75 => 35 | 127 => 104 | 164 => 113 | 80 => 71 | n => n, fun | n => n⟩
theorem Tryz.lays105 : Go.Proofs.Lays.n105 Tryz.prog Tryz.lays105_ren := {
  mixed := by kernel_rfl
  f99 := Tryz.func183.trans (congrArg some (by kernel_rfl))
  f105 := Tryz.func168.trans (congrArg some (by kernel_rfl))
  f165 := Tryz.func61.trans (congrArg some (by kernel_rfl))
  f166 := Tryz.func24.trans (congrArg some (by kernel_rfl))
  f169 := Tryz.func28.trans (congrArg some (by kernel_rfl))
  f170 := Tryz.func169.trans (congrArg some (by kernel_rfl))
  f206 := Tryz.func192.trans (congrArg some (by kernel_rfl))
  f212 := Tryz.func135.trans (congrArg some (by kernel_rfl))
  f240 := Tryz.func46.trans (congrArg some (by kernel_rfl))
  f241 := Tryz.func89.trans (congrArg some (by kernel_rfl))
  f263 := Tryz.func158.trans (congrArg some (by kernel_rfl))
  f264 := Tryz.func159.trans (congrArg some (by kernel_rfl))
  f276 := Tryz.func76.trans (congrArg some (by kernel_rfl))
  f277 := Tryz.func121.trans (congrArg some (by kernel_rfl))
  t0 := Tryz.underlying0
  a0 := Tryz.isAgg0
  z0 := Tryz.sizeOf0
  v0 := Tryz.zeroValue0
  t3 := Tryz.underlying3
  a3 := Tryz.isAgg3
  z3 := Tryz.sizeOf3
  v3 := Tryz.zeroValue3
  t4 := Tryz.underlying4
  a4 := Tryz.isAgg4
  z4 := Tryz.sizeOf4
  v4 := Tryz.zeroValue4
  t5 := Tryz.underlying5
  a5 := Tryz.isAgg5
  z5 := Tryz.sizeOf5
  v5 := Tryz.zeroValue5
  t9 := Tryz.underlying9
  a9 := Tryz.isAgg9
  z9 := Tryz.sizeOf9
  v9 := Tryz.zeroValue9
  t20 := Tryz.underlying20
  a20 := Tryz.isAgg20
  z20 := Tryz.sizeOf20
  v20 := Tryz.zeroValue20
  t37 := Tryz.underlying60
  a37 := Tryz.isAgg60
  z37 := Tryz.sizeOf60
  v37 := Tryz.zeroValue60
  t46 := Tryz.underlying136
  a46 := Tryz.isAgg136
  z46 := Tryz.sizeOf136
  v46 := Tryz.zeroValue136
  t51 := Tryz.underlying175
  a51 := Tryz.isAgg175
  z51 := Tryz.sizeOf175
  v51 := Tryz.zeroValue175
  t53 := Tryz.underlying29
  a53 := Tryz.isAgg29
  z53 := Tryz.sizeOf29
  v53 := Tryz.zeroValue29
  t70 := Tryz.underlying59
  a70 := Tryz.isAgg59
  z70 := Tryz.sizeOf59
  v70 := Tryz.zeroValue59
  t72 := Tryz.underlying62
  a72 := Tryz.isAgg62
  z72 := Tryz.sizeOf62
  v72 := Tryz.zeroValue62
  t75 := Tryz.underlying35
  a75 := Tryz.isAgg35
  z75 := Tryz.sizeOf35
  v75 := Tryz.zeroValue35
  t76 := Tryz.underlying66
  a76 := Tryz.isAgg66
  z76 := Tryz.sizeOf66
  v76 := Tryz.zeroValue66
  t109 := Tryz.underlying232
  a109 := Tryz.isAgg232
  z109 := Tryz.sizeOf232
  v109 := Tryz.zeroValue232
  t127 := Tryz.underlying104
  a127 := Tryz.isAgg104
  z127 := Tryz.sizeOf104
  v127 := Tryz.zeroValue104
  t146 := Tryz.underlying176
  a146 := Tryz.isAgg176
  z146 := Tryz.sizeOf176
  v146 := Tryz.zeroValue176
  t148 := Tryz.underlying259
  a148 := Tryz.isAgg259
  z148 := Tryz.sizeOf259
  v148 := Tryz.zeroValue259
  t164 := Tryz.underlying113
  a164 := Tryz.isAgg113
  z164 := Tryz.sizeOf113
  v164 := Tryz.zeroValue113 }
theorem Tryz.Builder_Extra_105 : Builder.Extra Tryz.prog Tryz.lays105_ren := {
  sizeBuilder := by kernel_rfl
  liesBuilder := by kernel_rfl
  t5 := Tryz.underlying5
  a5 := Tryz.isAgg5
  z5 := Tryz.sizeOf5
  v5 := Tryz.zeroValue5
  infoByte := by kernel_rfl
  cellsByte := by kernel_rfl
  sizeByte := by kernel_rfl
  neB5 := by decide }
open Go.RowKit Go.Lib in
theorem Tryz.strings_Repeat (s : ByteArray) (c : Nat) (w : World) (hc : c ≤ 9223372036854775807) (hlen : s.size * c ≤ 140737488355328) :
    Calls Tryz.prog 168 #[.string s, .int .i64 c] w fun e w' => e = .returned (.string ⟨(Lib.repeatL s.data.toList c).toArray⟩) ∧ Below w.heap.size w w' := Any.strings_Repeat Tryz.lays105 Tryz.Builder_Extra_105 s c w hc hlen
end Go.Proofs

/- Numbers of classes, as plain lists: the number of a form among those met, the forms met behind it, a whole list's numbers. -/
set_option maxRecDepth 20000
namespace Go.Proofs.YtnlbjknfahhfaaaGreatDoor.Tx
namespace It
open Go.Maps

/-- a form's number among the forms met: how many there are, where it is new -/
def num (fs : List (List UInt8)) (f : List UInt8) : Nat := fs.idxOf f
/-- the forms met, once a form was shown -/
def add (fs : List (List UInt8)) (f : List UInt8) : List (List UInt8) := if fs.contains f then fs else fs ++ [f]
/-- the numbers of forms that are shown in order -/
def nums : List (List UInt8) → List (List UInt8) → List Nat
  | _, [] => []
  | fs, f :: r => num fs f :: nums (add fs f) r
/-- the forms met, once all of these were shown -/
def adds (fs r : List (List UInt8)) : List (List UInt8) := r.foldl add fs

theorem adds_cons (fs : List (List UInt8)) (f : List UInt8) (r : List (List UInt8)) : adds fs (f :: r) = adds (add fs f) r := rfl
theorem adds_append (fs a b : List (List UInt8)) : adds fs (a ++ b) = adds (adds fs a) b := List.foldl_append
theorem nums_append : ∀ (a fs b : List (List UInt8)), nums fs (a ++ b) = nums fs a ++ nums (adds fs a) b
  | [], _, _ => rfl
  | f :: r, fs, b => by rw [List.cons_append, nums, nums_append r, nums, List.cons_append, adds_cons]
theorem nums_snoc (fs a : List (List UInt8)) (f : List UInt8) : nums fs (a ++ [f]) = nums fs a ++ [num (adds fs a) f] := by rw [nums_append]; rfl
theorem adds_snoc (fs a : List (List UInt8)) (f : List UInt8) : adds fs (a ++ [f]) = add (adds fs a) f := by rw [adds_append]; rfl
theorem nums_length : ∀ (r fs : List (List UInt8)), (nums fs r).length = r.length
  | [], _ => rfl
  | f :: r, fs => by rw [nums, List.length_cons, nums_length r, List.length_cons]
theorem add_le (fs : List (List UInt8)) (f : List UInt8) : (add fs f).length ≤ fs.length + 1 := by unfold add; split <;> simp
theorem adds_le : ∀ (r fs : List (List UInt8)), (adds fs r).length ≤ fs.length + r.length
  | [], _ => Nat.le_refl _
  | f :: r, fs => by
    have h1 := adds_le r (add fs f)
    have h2 := add_le fs f
    rw [adds_cons, List.length_cons]
    omega
theorem num_le (fs : List (List UInt8)) (f : List UInt8) : num fs f ≤ fs.length := List.idxOf_le_length
theorem num_lt {fs : List (List UInt8)} {f : List UInt8} (h : f ∈ fs) : num fs f < fs.length := List.idxOf_lt_length_iff.2 h
theorem num_new {fs : List (List UInt8)} {f : List UInt8} (h : f ∉ fs) : num fs f = fs.length := List.idxOf_eq_length h
theorem add_old {fs : List (List UInt8)} {f : List UInt8} (h : f ∈ fs) : add fs f = fs := by rw [add, if_pos (List.contains_iff_mem.2 h)]
theorem add_new {fs : List (List UInt8)} {f : List UInt8} (h : f ∉ fs) : add fs f = fs ++ [f] := by rw [add, if_neg (fun e => h (List.contains_iff_mem.1 e))]
theorem mem_add_self (fs : List (List UInt8)) (f : List UInt8) : f ∈ add fs f := by
  by_cases h : f ∈ fs
  · rw [add_old h]; exact h
  · rw [add_new h]; simp
theorem mem_add {fs : List (List UInt8)} {g : List UInt8} (h : g ∈ fs) (f : List UInt8) : g ∈ add fs f := by
  by_cases hf : f ∈ fs
  · rw [add_old hf]; exact h
  · rw [add_new hf]; simp [h]
theorem num_add {fs : List (List UInt8)} {g : List UInt8} (h : g ∈ fs) (f : List UInt8) : num (add fs f) g = num fs g := by
  by_cases hf : f ∈ fs
  · rw [add_old hf]
  · rw [add_new hf]; unfold num; rw [List.idxOf_append, if_pos h]
theorem num_add_self (fs : List (List UInt8)) (f : List UInt8) : num (add fs f) f = num fs f := by
  by_cases h : f ∈ fs
  · rw [add_old h]
  · rw [add_new h, num_new h]; unfold num; rw [List.idxOf_append, if_neg h]; simp
theorem mem_adds : ∀ (r : List (List UInt8)) {fs : List (List UInt8)} {g : List UInt8}, g ∈ fs → g ∈ adds fs r
  | [], _, _, h => h
  | f :: r, _, _, h => mem_adds r (mem_add h f)
theorem num_adds : ∀ (r : List (List UInt8)) {fs : List (List UInt8)} {g : List UInt8}, g ∈ fs → num (adds fs r) g = num fs g
  | [], _, _, _ => rfl
  | f :: r, fs, g, h => by rw [adds_cons, num_adds r (mem_add h f), num_add h f]
theorem mem_adds_self : ∀ (r : List (List UInt8)) (fs : List (List UInt8)), ∀ g ∈ r, g ∈ adds fs r
  | f :: r, fs, g, h => by
    rw [adds_cons]
    rcases List.mem_cons.1 h with rfl | h
    · exact mem_adds r (mem_add_self fs g)
    · exact mem_adds_self r _ g h
/-- each number is that among all that were met in the end -/
theorem nums_eq : ∀ (r fs : List (List UInt8)), nums fs r = r.map (num (adds fs r))
  | [], _ => rfl
  | f :: r, fs => by
    rw [nums, nums_eq r, List.map_cons, adds_cons, num_adds r (mem_add_self fs f), num_add_self]
theorem adds_old : ∀ (r : List (List UInt8)) {fs : List (List UInt8)}, (∀ g ∈ r, g ∈ fs) → adds fs r = fs
  | [], _, _ => rfl
  | f :: r, fs, h => by
    rw [adds_cons, add_old (h f (by simp)), adds_old r (fun g hg => h g (by simp [hg]))]
theorem adds_again (r fs : List (List UInt8)) : adds (adds fs r) r = adds fs r := adds_old r (mem_adds_self r fs)
theorem nums_again (r fs : List (List UInt8)) : nums (adds fs r) r = nums fs r := by rw [nums_eq, nums_eq, adds_again]
theorem num_inj {fs : List (List UInt8)} {f g : List UInt8} (hf : f ∈ fs) (hg : g ∈ fs) : num fs f = num fs g ↔ f = g := by
  constructor
  · intro h
    have h1 := List.getElem_idxOf (num_lt hf)
    have h2 := List.getElem_idxOf (num_lt hg)
    unfold num at h
    exact h1.symm.trans ((getElem_congr_idx h).trans h2)
  · intro h; rw [h]

/-- a map that holds the forms met, each with its number -/
structure Tells {H : Type} (D : DataW H) (fs : List (List UInt8)) : Prop where
  tidy : Tidy D
  size : Maps.size D = fs.length
  has : ∀ f, Maps.has D (.string f) = fs.contains f
  at_ : ∀ f ∈ fs, D.atKey (.string f) (.lit (.int .i64 0)) = .lit (.int .i64 (num fs f))

theorem Tells.nil {H : Type} : Tells (H := H) (.map []) [] := ⟨tidy_empty, rfl, fun _ => rfl, fun f h => by cases h⟩
theorem Tells.put {H : Type} {D : DataW H} {fs : List (List UInt8)} (h : Tells D fs) {f : List UInt8} (hf : f ∉ fs) : Tells (D.put (.string f) (.lit (.int .i64 fs.length))) (fs ++ [f]) := by
  have hk : WideAt.IsKeyLit (.string f) := trivial
  have hne : ∀ {g : List UInt8}, g ≠ f → (Lit.string g) ≠ .string f := fun hg e => hg (by cases e; rfl)
  refine ⟨h.tidy.put hk _, ?_, fun g => ?_, fun g hg => ?_⟩
  · rw [size_put h.tidy, h.has, if_neg (fun e => hf (List.contains_iff_mem.1 e)), h.size]; simp
  · by_cases e : g = f
    · subst e
      rw [has_put_same h.tidy.isMap hk]; simp
    · rw [has_put_other (hne e), h.has]; simp [e]
  · by_cases e : g = f
    · subst e
      rw [atKey_put_same h.tidy.isMap hk, ← add_new hf, num_add_self, num_new hf]
    · have hg' : g ∈ fs := by simpa [e] using hg
      rw [atKey_put_other (hne e), h.at_ g hg', ← add_new hf, num_add hg']
/-- what a look-up finds -/
theorem Tells.look {H : Type} {D : DataW H} {fs : List (List UInt8)} (h : Tells D fs) {f : List UInt8} {c : Int} (hc : D.atKey (.string f) (.lit (.int .i64 0)) = .lit (.int .i64 c)) : c = if fs.contains f then (num fs f : Int) else 0 := by
  by_cases hf : f ∈ fs
  · rw [h.at_ f hf] at hc
    rw [if_pos (List.contains_iff_mem.2 hf)]
    cases hc; rfl
  · have hn : fs.contains f = false := Bool.eq_false_iff.2 (fun e => hf (List.contains_iff_mem.1 e))
    rw [atKey_of_not_has (by rw [h.has, hn])] at hc
    rw [if_neg (by rw [hn]; exact Bool.false_ne_true)]
    cases hc; rfl
end It
end Go.Proofs.YtnlbjknfahhfaaaGreatDoor.Tx

/- Plain facts on lines as lists of bytes: tabs as blanks, white space left out, made one blank, or cut off at the end, small letters; the form in which a line counts, and that ignoring more never parts two lines that were the same. -/
set_option maxRecDepth 20000
namespace Go.Proofs.YtnlbjknfahhfaaaGreatDoor.Tx.Cn
open Go

/-- a line's text, and whether it had its line feed -/
def feedB (s : List UInt8) : Bool := s.getLast? == some 10
def bareL (s : List UInt8) : List UInt8 := if feedB s then s.dropLast else s
def feedL (s : List UInt8) : List UInt8 := bif feedB s then [10] else []

/-- white space -/
def wh (c : UInt8) : Bool := [32, 9, 11, 12, 13].contains c
/-- how many blanks bring a column to the next multiple of eight, if it is none -/
def fillN (k : Nat) : Nat := (8 - k % 8) % 8
/-- blanks in the place of tabs, from a column on -/
def expL : Nat → List UInt8 → List UInt8
  | _, [] => []
  | k, c :: r => if c = 9 then List.replicate (8 - k % 8) 32 ++ expL (k + (8 - k % 8)) r else c :: expL (k + 1) r
/-- without white space, or with one blank for each run of it; the second: whether a run is under way -/
def wo (blank : Bool) : Bool → List UInt8 → List UInt8
  | _, [] => []
  | was, c :: r => bif wh c then (bif blank && !was then 32 :: wo blank true r else wo blank true r) else c :: wo blank false r
/-- without the white space at the end -/
def trL (l : List UInt8) : List UInt8 := Lib.trimRightS l [32, 9, 11, 12, 13]
/-- a small letter -/
def low (c : UInt8) : UInt8 := if 65 ≤ c.toNat ∧ c.toNat ≤ 90 then c + 32 else c
def smL (l : List UInt8) : List UInt8 := l.map low

/-- what is ignored -/
structure Ig where
  sp : Bool
  wt : Bool
  bl : Bool
  cs : Bool
  tb : Bool
  tr : Bool

/-- the steps, and a text behind the first ones -/
def ask (o : Ig) : Nat → Bool
  | 0 => o.tb
  | 1 => o.wt
  | 2 => o.sp
  | 3 => o.tr
  | _ => o.cs
def act : Nat → List UInt8 → List UInt8
  | 0, l => expL 0 l
  | 1, l => wo false false l
  | 2, l => trL (wo true false l)
  | 3, l => trL l
  | _, l => smL l
def stg (o : Ig) : Nat → List UInt8 → List UInt8
  | 0, l => l
  | k + 1, l => bif ask o k then act k (stg o k l) else stg o k l
def canonL (o : Ig) (l : List UInt8) : List UInt8 := stg o 5 (bareL l) ++ feedL l

theorem exp_tab (k : Nat) (r : List UInt8) : expL k (9 :: r) = List.replicate (8 - k % 8) 32 ++ expL (k + (8 - k % 8)) r := by simp [expL]
theorem exp_other {c : UInt8} (h : c ≠ 9) (k : Nat) (r : List UInt8) : expL k (c :: r) = c :: expL (k + 1) r := by simp [expL, h]
theorem fill_more {k : Nat} (h : k % 8 ≠ 0) : fillN k = fillN (k + 1) + 1 := by unfold fillN; omega
theorem fill_end {k : Nat} (h : k % 8 = 0) : fillN k = 0 := by unfold fillN; omega
theorem fill_first (k : Nat) : 8 - k % 8 = fillN (k + 1) + 1 := by unfold fillN; omega
theorem fill_le (k : Nat) : fillN k ≤ 7 := by unfold fillN; omega
theorem rep_blank (n : Nat) : Lib.repeatL [32] n = List.replicate n 32 := by
  induction n with
  | zero => rfl
  | succ n ih => rw [Lib.repeatL, ih]; rfl

theorem exp_len (l : List UInt8) : ∀ k, (expL k l).length ≤ 8 * l.length := by
  induction l with
  | nil => intro k; simp [expL]
  | cons c r ih =>
    intro k
    by_cases h : c = 9
    · subst h
      rw [exp_tab, List.length_append, List.length_replicate, List.length_cons]
      have := ih (k + (8 - k % 8))
      omega
    · rw [exp_other h, List.length_cons, List.length_cons]
      have := ih (k + 1)
      omega

theorem wo_keep {c : UInt8} (h : wh c = false) (blank was : Bool) (r : List UInt8) : wo blank was (c :: r) = c :: wo blank false r := by simp [wo, h]
theorem wo_blank {c : UInt8} (h : wh c = true) (r : List UInt8) : wo true false (c :: r) = 32 :: wo true true r := by simp [wo, h]
theorem wo_run {c : UInt8} (h : wh c = true) (r : List UInt8) : wo true true (c :: r) = wo true true r := by simp [wo, h]
theorem wo_none {c : UInt8} (h : wh c = true) (was : Bool) (r : List UInt8) : wo false was (c :: r) = wo false true r := by simp [wo, h]

theorem wo_len (blank : Bool) (l : List UInt8) : ∀ was, (wo blank was l).length ≤ l.length := by
  induction l with
  | nil => intro was; simp [wo]
  | cons c r ih =>
    intro was
    have h1 := ih true
    have h2 := ih false
    cases hc : wh c <;> cases blank <;> cases was <;> simp [wo, hc] <;> omega

theorem tr_len (l : List UInt8) : (trL l).length ≤ l.length := by
  unfold trL Lib.trimRightS
  rw [List.length_reverse]
  have := (List.dropWhile_suffix (fun b => [32, 9, 11, 12, 13].contains b) (l := l.reverse)).length_le
  rw [List.length_reverse] at this
  exact this
theorem sm_len (l : List UInt8) : (smL l).length = l.length := by simp [smL]

/-- without white space at all -/
theorem wo_filter (l : List UInt8) : ∀ was, wo false was l = l.filter fun c => !wh c := by
  induction l with
  | nil => intro was; rfl
  | cons c r ih =>
    intro was
    cases hc : wh c
    · rw [wo_keep hc, ih, List.filter_cons, hc]; rfl
    · rw [wo_none hc, ih, List.filter_cons, hc]; rfl

theorem tr_nil : trL [] = [] := rfl
theorem tr_white (l : List UInt8) {c : UInt8} (h : wh c = true) : trL (l ++ [c]) = trL l := by
  unfold trL Lib.trimRightS
  rw [List.reverse_append, List.reverse_singleton, List.singleton_append, List.dropWhile_cons, if_pos (by unfold wh at h; exact h)]
theorem tr_keep (l : List UInt8) {c : UInt8} (h : wh c = false) : trL (l ++ [c]) = l ++ [c] := by
  unfold trL Lib.trimRightS
  rw [List.reverse_append, List.reverse_singleton, List.singleton_append, List.dropWhile_cons, if_neg (by unfold wh at h; rw [h]; decide)]
  simp

theorem snoc_cases (l : List UInt8) : l = [] ∨ ∃ a c, l = a ++ [c] := by
  rcases l.eq_nil_or_concat with h | ⟨a, c, h⟩
  · exact .inl h
  · exact .inr ⟨a, c, by rw [h, List.concat_eq_append]⟩

theorem snoc_rec {P : List UInt8 → Prop} (h0 : P []) (h1 : ∀ a c, P a → P (a ++ [c])) (l : List UInt8) : P l := by
  have h : ∀ n (l : List UInt8), l.length = n → P l := by
    intro n
    induction n with
    | zero => intro l hl; rw [List.eq_nil_of_length_eq_zero hl]; exact h0
    | succ n ih =>
      intro l hl
      rcases snoc_cases l with rfl | ⟨a, c, rfl⟩
      · simp at hl
      · exact h1 a c (ih a (by simpa using hl))
  exact h _ l rfl

/-- a form's end: a text is cut into what stays and white space -/
theorem tr_parts (l : List UInt8) : ∃ ws, l = trL l ++ ws ∧ ∀ c ∈ ws, wh c = true := by
  refine snoc_rec (P := fun l => ∃ ws, l = trL l ++ ws ∧ ∀ c ∈ ws, wh c = true) ⟨[], rfl, by simp⟩ ?_ l
  intro a c ⟨ws, h, hw⟩
  cases hc : wh c
  · exact ⟨[], by rw [tr_keep a hc]; simp, by simp⟩
  · refine ⟨ws ++ [c], ?_, ?_⟩
    · rw [tr_white a hc, ← List.append_assoc, ← h]
    · intro x hx
      rcases List.mem_append.1 hx with hx | hx
      · exact hw x hx
      · rw [List.mem_singleton.1 hx]; exact hc
theorem tr_all (l : List UInt8) : ∀ ws : List UInt8, (∀ c ∈ ws, wh c = true) → trL (l ++ ws) = trL l := by
  intro ws
  refine snoc_rec (P := fun ws => (∀ c ∈ ws, wh c = true) → trL (l ++ ws) = trL l) (fun _ => by simp) ?_ ws
  intro a c ih hw
  rw [← List.append_assoc, tr_white _ (hw c (by simp))]
  exact ih fun x hx => hw x (by simp [hx])
/-- nothing, or its last byte is no white space -/
theorem tr_ends (l : List UInt8) : trL l = [] ∨ ∃ a c, trL l = a ++ [c] ∧ wh c = false := by
  refine snoc_rec (P := fun l => trL l = [] ∨ ∃ a c, trL l = a ++ [c] ∧ wh c = false) (.inl rfl) ?_ l
  intro a c ih
  cases hc : wh c
  · exact .inr ⟨a, c, tr_keep a hc, hc⟩
  · rw [tr_white a hc]; exact ih
theorem tr_twice (l : List UInt8) : trL (trL l) = trL l := by
  rcases tr_ends l with h | ⟨a, c, h, hc⟩
  · rw [h]; rfl
  · rw [h]; exact tr_keep a hc

/-- whether a run is under way behind a text -/
def wasOf : Bool → List UInt8 → Bool
  | was, [] => was
  | _, c :: r => wasOf (wh c) r
theorem wo_append (blank : Bool) (x y : List UInt8) : ∀ was, wo blank was (x ++ y) = wo blank was x ++ wo blank (wasOf was x) y := by
  induction x with
  | nil => intro was; rfl
  | cons c r ih =>
    intro was
    have h1 := ih true
    have h2 := ih false
    cases hc : wh c <;> cases blank <;> cases was <;> simp [wo, wasOf, hc, h1, h2]
theorem wo_white {ws : List UInt8} (h : ∀ c ∈ ws, wh c = true) (blank : Bool) : ∀ was, ∀ c ∈ wo blank was ws, wh c = true := by
  induction ws with
  | nil => intro was c hc; simp [wo] at hc
  | cons d r ih =>
    have hd : wh d = true := h d (by simp)
    have h1 := ih (fun x hx => h x (by simp [hx])) true
    intro was c hc
    cases blank <;> cases was <;> simp [wo, hd] at hc
    · exact h1 c hc
    · exact h1 c hc
    · rcases hc with rfl | hc
      · decide
      · exact h1 c hc
    · exact h1 c hc

theorem one_tr (l : List UInt8) : wo true false (trL l) = trL (wo true false l) := by
  obtain ⟨ws, h, hw⟩ := tr_parts l
  have e : wo true false l = wo true false (trL l) ++ wo true (wasOf false (trL l)) ws := by
    conv => lhs; rw [h]
    exact wo_append true (trL l) ws false
  rw [e, tr_all _ _ (wo_white hw true _)]
  rcases tr_ends l with h0 | ⟨a, c, h0, hc⟩
  · rw [h0]; rfl
  · rw [h0, wo_append, wo_keep hc]
    exact (tr_keep _ hc).symm

theorem filter_tr (l : List UInt8) : (trL l).filter (fun c => !wh c) = l.filter fun c => !wh c := by
  obtain ⟨ws, h, hw⟩ := tr_parts l
  conv => rhs; rw [h]
  rw [List.filter_append]
  have : ws.filter (fun c => !wh c) = [] := List.filter_eq_nil_iff.2 fun c hc => by rw [hw c hc]; decide
  rw [this, List.append_nil]
theorem filter_one (l : List UInt8) : ∀ was, (wo true was l).filter (fun c => !wh c) = l.filter fun c => !wh c := by
  induction l with
  | nil => intro was; rfl
  | cons c r ih =>
    intro was
    have h32 : wh 32 = true := by decide
    cases hc : wh c
    · rw [wo_keep hc, List.filter_cons, List.filter_cons, ih]
    · cases was
      · rw [wo_blank hc, List.filter_cons, List.filter_cons, ih, hc, h32]; rfl
      · rw [wo_run hc, List.filter_cons, ih, hc]; rfl

theorem low_white (c : UInt8) : wh (low c) = wh c := by
  have h : ∀ c : Fin 256, wh (low (UInt8.ofNat c.val)) = wh (UInt8.ofNat c.val) := by decide +kernel
  have := h ⟨c.toNat, c.toNat_lt⟩
  simpa using this
theorem low_feed (c : UInt8) : low c = 10 ↔ c = 10 := by
  have h : ∀ c : Fin 256, low (UInt8.ofNat c.val) = 10 ↔ UInt8.ofNat c.val = 10 := by decide +kernel
  have := h ⟨c.toNat, c.toNat_lt⟩
  simpa using this
theorem low_twice (c : UInt8) : low (low c) = low c := by
  have h : ∀ c : Fin 256, low (low (UInt8.ofNat c.val)) = low (UInt8.ofNat c.val) := by decide +kernel
  have := h ⟨c.toNat, c.toNat_lt⟩
  simpa using this
theorem sm_twice (l : List UInt8) : smL (smL l) = smL l := by simp [smL, low_twice]
theorem sm_append (x y : List UInt8) : smL (x ++ y) = smL x ++ smL y := by simp [smL]
theorem sm_tr (l : List UInt8) : smL (trL l) = trL (smL l) := by
  refine snoc_rec (P := fun l => smL (trL l) = trL (smL l)) rfl ?_ l
  intro a c ih
  have e : smL (a ++ [c]) = smL a ++ [low c] := by simp [smL]
  cases hc : wh c
  · rw [tr_keep a hc, e, tr_keep _ (by rw [low_white]; exact hc)]
  · rw [tr_white a hc, e, tr_white _ (by rw [low_white]; exact hc), ih]
theorem sm_wo (blank : Bool) (l : List UInt8) : ∀ was, smL (wo blank was l) = wo blank was (smL l) := by
  induction l with
  | nil => intro was; rfl
  | cons c r ih =>
    intro was
    have h1 := ih true
    have h2 := ih false
    have e : smL (c :: r) = low c :: smL r := rfl
    have hl := low_white c
    have h32 : low 32 = 32 := by decide
    rw [e]
    cases hc : wh c <;> rw [hc] at hl <;> cases blank <;> cases was <;> simp [wo, hc, hl, ← h1, ← h2] <;> simp [smL, h32]

/-- what a line counts as, up to the small letters: of its text, and with its line feed -/
def pre (o : Ig) (l : List UInt8) : List UInt8 := bif o.tb then expL 0 (bareL l) else bareL l
def sm? (o : Ig) (l : List UInt8) : List UInt8 := bif o.cs then smL l else l

theorem exp_ends (l : List UInt8) : ∀ k, (expL k l).getLast? = some 10 → l.getLast? = some 10 := by
  induction l with
  | nil => intro k h; simp [expL] at h
  | cons c r ih =>
    intro k h
    by_cases hc : c = 9
    · subst hc
      rw [exp_tab] at h
      by_cases hr : expL (k + (8 - k % 8)) r = []
      · rw [hr, List.append_nil, List.getLast?_replicate] at h
        split at h <;> simp at h
      · rw [List.getLast?_append] at h
        have hs : (expL (k + (8 - k % 8)) r).getLast? = some 10 := by
          cases hl : (expL (k + (8 - k % 8)) r).getLast? with
          | none => exact absurd (List.getLast?_eq_none_iff.1 hl) hr
          | some x => rw [hl] at h; simpa using h
        have := ih _ hs
        rw [List.getLast?_cons, this]; rfl
    · rw [exp_other hc, List.getLast?_cons] at h
      rw [List.getLast?_cons]
      cases he : (expL (k + 1) r).getLast? with
      | none =>
        rw [he] at h
        have hn : r = [] := by
          cases r with
          | nil => rfl
          | cons d r' =>
            exfalso
            rw [List.getLast?_eq_none_iff] at he
            by_cases hd : d = 9
            · subst hd
              rw [exp_tab] at he
              have := congrArg List.length he
              simp at this
              omega
            · rw [exp_other hd] at he; simp at he
        subst hn
        simpa using h
      | some x =>
        rw [he] at h
        have hx : x = 10 := by simpa using h
        rw [ih _ (by rw [he, hx])]; rfl

theorem bare_ends {l : List UInt8} (h : feedB l = false) : (bareL l).getLast? ≠ some 10 := by
  rw [bareL, h]
  intro e
  have : feedB l = true := by rw [feedB]; simpa using e
  rw [h] at this; cases this
theorem pre_ends {o : Ig} {l : List UInt8} (h : feedB l = false) : (pre o l).getLast? ≠ some 10 := by
  unfold pre
  cases o.tb
  · exact bare_ends h
  · exact fun e => bare_ends h (exp_ends _ _ e)
theorem sm_ends {o : Ig} {l : List UInt8} (h : (sm? o l).getLast? = some 10) : l.getLast? = some 10 := by
  unfold sm? at h
  cases hc : o.cs <;> rw [hc] at h
  · exact h
  · simp only [cond_true, smL, List.getLast?_map] at h
    cases hl : l.getLast? with
    | none => rw [hl] at h; cases h
    | some x =>
      rw [hl] at h
      have : low x = 10 := by simpa using h
      rw [(low_feed x).1 this]

/-- nothing of white space is ignored -/
def o0 (o : Ig) : Ig := { o with sp := false, wt := false, tr := false }
def ok (o : Ig) (k : Nat) : Ig := { o with sp := decide (k = 2), wt := decide (k = 3), tr := decide (k = 1) }

theorem c0 (o : Ig) (l : List UInt8) : canonL (o0 o) l = sm? o (pre o l) ++ feedL l := by
  unfold canonL stg sm? pre
  simp only [stg, ask, act, o0, cond_false]
theorem c1 (o : Ig) (l : List UInt8) : canonL (ok o 1) l = sm? o (trL (pre o l)) ++ feedL l := by
  unfold canonL stg sm? pre
  simp [stg, ask, act, ok]
theorem c2 (o : Ig) (l : List UInt8) : canonL (ok o 2) l = sm? o (trL (wo true false (pre o l))) ++ feedL l := by
  unfold canonL stg sm? pre
  simp [stg, ask, act, ok]
theorem c3 (o : Ig) (l : List UInt8) : canonL (ok o 3) l = sm? o (wo false false (pre o l)) ++ feedL l := by
  unfold canonL stg sm? pre
  simp [stg, ask, act, ok]
theorem ok0 (o : Ig) : ok o 0 = o0 o := by simp [ok, o0]

theorem smq_tr (o : Ig) (l : List UInt8) : sm? o (trL l) = trL (sm? o l) := by
  unfold sm?; cases o.cs
  · rfl
  · exact sm_tr l
theorem smq_wo (o : Ig) (blank : Bool) (l : List UInt8) : sm? o (wo blank false l) = wo blank false (sm? o l) := by
  unfold sm?; cases o.cs
  · rfl
  · exact sm_wo blank l false
theorem feed_parts (l : List UInt8) : (feedB l = true ∧ feedL l = [10]) ∨ (feedB l = false ∧ feedL l = []) := by
  unfold feedL; cases feedB l
  · exact .inr ⟨rfl, rfl⟩
  · exact .inl ⟨rfl, rfl⟩

/-- from nothing to white space at the end -/
theorem up1 (o : Ig) {a b : List UInt8} (h : canonL (o0 o) a = canonL (o0 o) b) : canonL (ok o 1) a = canonL (ok o 1) b := by
  rw [c0, c0] at h
  rw [c1, c1, smq_tr, smq_tr]
  have key : ∀ {x y : List UInt8}, feedB y = false → sm? o (pre o x) ++ [10] = sm? o (pre o y) ++ [] → False := by
    intro x y hy e
    have : (sm? o (pre o y)).getLast? = some 10 := by rw [List.append_nil] at e; rw [← e]; simp
    exact pre_ends hy (sm_ends this)
  rcases feed_parts a with ⟨ha, fa⟩ | ⟨ha, fa⟩ <;> rcases feed_parts b with ⟨hb, fb⟩ | ⟨hb, fb⟩ <;> rw [fa, fb] at h ⊢
  · rw [List.append_cancel_right h]
  · exact (key hb h).elim
  · exact (key ha h.symm).elim
  · rw [List.append_cancel_right h]

theorem tr_feed (x : List UInt8) : trL (x ++ [10]) = x ++ [10] := tr_keep x (by decide)
theorem wo_feed (blank : Bool) (x : List UInt8) (was : Bool) : wo blank was (x ++ [10]) = wo blank was x ++ [10] := by
  rw [wo_append]
  have h : wh 10 = false := by decide
  rw [wo_keep h]; rfl

/-- one form makes the next one -/
theorem next2 (o : Ig) (l : List UInt8) : canonL (ok o 2) l = trL (wo true false (canonL (ok o 1) l)) := by
  rw [c1, c2]
  have e : sm? o (trL (wo true false (pre o l))) = wo true false (sm? o (trL (pre o l))) := by rw [← one_tr, smq_wo]
  rw [e]
  rcases feed_parts l with ⟨_, f⟩ | ⟨_, f⟩ <;> rw [f]
  · rw [wo_feed, tr_feed]
  · rw [List.append_nil, List.append_nil, smq_tr, one_tr, tr_twice]
theorem next3 (o : Ig) (l : List UInt8) : canonL (ok o 3) l = wo false false (canonL (ok o 2) l) := by
  rw [c2, c3]
  have e : sm? o (wo false false (pre o l)) = wo false false (sm? o (trL (wo true false (pre o l)))) := by
    rw [smq_wo, smq_tr, smq_wo, wo_filter, wo_filter, filter_tr, filter_one]
  rw [e]
  rcases feed_parts l with ⟨_, f⟩ | ⟨_, f⟩ <;> rw [f]
  · rw [wo_feed]
  · rw [List.append_nil, List.append_nil]
theorem up2 (o : Ig) {a b : List UInt8} (h : canonL (ok o 1) a = canonL (ok o 1) b) : canonL (ok o 2) a = canonL (ok o 2) b := by rw [next2, next2, h]
theorem up3 (o : Ig) {a b : List UInt8} (h : canonL (ok o 2) a = canonL (ok o 2) b) : canonL (ok o 3) a = canonL (ok o 3) b := by rw [next3, next3, h]

/-- case besides -/
theorem small_form (o : Ig) (l : List UInt8) : canonL { o with cs := true } l = smL (canonL o l) := by
  have h10 : smL [10] = [10] := by decide
  have hf : smL (feedL l) = feedL l := by
    rcases feed_parts l with ⟨_, f⟩ | ⟨_, f⟩ <;> rw [f]
    · exact h10
    · rfl
  unfold canonL
  rw [sm_append, hf]
  congr 1
  show smL (stg { o with cs := true } 4 (bareL l)) = smL (bif o.cs then smL (stg o 4 (bareL l)) else stg o 4 (bareL l))
  have e : stg { o with cs := true } 4 (bareL l) = stg o 4 (bareL l) := rfl
  rw [e]
  cases o.cs
  · rfl
  · exact (sm_twice _).symm
theorem case_up (o : Ig) {a b : List UInt8} (h : canonL o a = canonL o b) : canonL { o with cs := true } a = canonL { o with cs := true } b := by rw [small_form, small_form, h]

/-- the lengths of forms -/
theorem bare_len (l : List UInt8) : (bareL l).length ≤ l.length := by unfold bareL; split <;> simp
theorem act_len (k : Nat) (l : List UInt8) : (act k l).length ≤ 8 * l.length := by
  match k with
  | 0 => exact exp_len l 0
  | 1 => have := wo_len false l false; simp only [act]; omega
  | 2 => have := wo_len true l false; have := tr_len (wo true false l); simp only [act]; omega
  | 3 => have := tr_len l; simp only [act]; omega
  | _ + 4 => simp only [act, sm_len]; omega
theorem act_less (k : Nat) (l : List UInt8) (h : k ≠ 0) : (act k l).length ≤ l.length := by
  match k, h with
  | 1, _ => have := wo_len false l false; simp only [act]; omega
  | 2, _ => have := wo_len true l false; have := tr_len (wo true false l); simp only [act]; omega
  | 3, _ => have := tr_len l; simp only [act]; omega
  | _ + 4, _ => simp only [act, sm_len]; omega
theorem stg_len (o : Ig) (l : List UInt8) : ∀ k, (stg o k l).length ≤ 8 * l.length := by
  intro k
  induction k with
  | zero => simp only [stg]; omega
  | succ k ih =>
    simp only [stg]
    cases ask o k
    · exact ih
    · simp only [cond_true]
      by_cases h : k = 0
      · subst h; exact act_len 0 l
      · exact Nat.le_trans (act_less k _ h) ih
theorem feed_len (l : List UInt8) : (feedL l).length ≤ 1 := by rcases feed_parts l with ⟨_, f⟩ | ⟨_, f⟩ <;> rw [f] <;> decide
theorem canon_len (o : Ig) (l : List UInt8) : (canonL o l).length ≤ 8 * l.length + 1 := by
  have := stg_len o (bareL l) 5
  have := bare_len l
  have := feed_len l
  rw [canonL, List.length_append]
  omega
end Go.Proofs.YtnlbjknfahhfaaaGreatDoor.Tx.Cn

/- Laws of no program: append onto a row that the call owns, with the place of the new row told; a builder whose buffer is named. -/
set_option maxRecDepth 20000
namespace Go.Proofs.YtnlbjknfahhfaaaGreatDoor.Tx
open Go.RowKit

theorem ret_bool {a b : Bool} (h : a = b) : Ending.returned (.bool a) = .returned (.bool b) := by rw [h]
theorem ret_int {k : IntKind} {a b : Int} (h : a = b) : Ending.returned (.int k a) = .returned (.int k b) := by rw [h]

section
variable {P : Program} (w : World)

/-- The append law behind a frozen head, and where the row lies behind it: where it lay, or in a new block. -/
theorem run_append_ownX (base : Nat) (t ty e : TypeId) (i : TypeInfo) (z : Value) (size bytes : Nat) (ht : P.underlying t = some (.slice e)) (hi : P.info? e = some i) (hz : i.zero = some z)
    (hsize : i.size = size) (hby : i.bytes = bytes) (hzs : z.cells.size = size) (hsz : 0 < size)
    (v : Value) (n : Nat) (xs : List Value) (hown : w.ownsRowF base e size v n xs)
    (a : Addr) (m c : Nat) (news : List Value) (hl : news.length = m * size) (hnews : ∀ j u, news[j]? = some u → w.cell? (a.add j) = some u) (h1 : ∀ u ∈ news, u.oneCell' = true)
    (h63 : n + m ≤ maxLen) (hbytes : (n + m) * bytes ≤ 140737488355328) (hbase : base ≤ w.heap.size) :
    ∃ v' w', (Builtin.append_ #[t, t] ty #[v, .slice (some a) m c]).run P w = .ok v' w' ∧ w'.ownsRowF base e size v' (n + m) (xs ++ news) ∧ w.grownBy w' v.ownBlock ∧
      (v'.ownBlock = v.ownBlock ∨ ∃ g, v'.ownBlock = some g ∧ w.heap.size ≤ g) := by
  rcases hown.2 with ⟨rfl, rfl⟩ | ⟨g, cap, cur, fz, rfl, hbg, hg, hfz, hnc, hcm, hcs, htake⟩
  · obtain ⟨v', w', r1, r2, r3, r4⟩ := run_append_own (P := P) w w.heap.size t ty e i z size bytes ht hi hz hsize hby hzs hsz (.slice none 0 0) 0 xs ⟨hown.1, .inl ⟨rfl, rfl⟩⟩ a m c news hl hnews h1 h63 hbytes (Nat.le_refl _)
    have r5 := World.ownsRowF_of r2
    refine ⟨v', w', r1, ⟨r5.1, ?_⟩, r3, ?_⟩
    · rcases r5.2 with h | ⟨g, cap, cur, fz, q1, q2, q3⟩
      · exact .inl h
      · exact .inr ⟨g, cap, cur, fz, q1, by omega, q3⟩
    · rcases r5.2 with ⟨h, _⟩ | ⟨g, cap, cur, fz, q1, q2, q3⟩
      · exact .inl (by rw [h])
      · exact .inr ⟨g, by rw [q1]; rfl, q2⟩
  · subst hsize
    subst hby
    have hsmall : n + m ≤ 9223372036854775807 := by simp only [maxLen] at h63; omega
    have hlen : (xs ++ news).length = (n + m) * i.size := by rw [List.length_append, hown.1, hl, Nat.add_mul]
    by_cases hroom : n + m ≤ cap
    · have hfit : n * i.size + news.length ≤ cur.size := by rw [hl, hcs, ← Nat.add_mul]; exact Nat.mul_le_mul_right _ hroom
      have hr := run_append_roomF (P := P) w t ty e i ht hi g n cap cur fz hg hfz a m c news hl hnews h1 hroom hfit
      refine ⟨_, _, hr, ⟨hlen, .inr ⟨g, cap, _, fz, rfl, hbg, setRow_heap w g cur _ e _ hg, Nat.le_trans hfz (Nat.mul_le_mul_right _ (Nat.le_add_right n m)), hroom, hcm, ?_, ?_⟩⟩, ⟨rfl, rfl, rfl, by simp, fun k _ hk => setRow_other w g k _ (fun e => hk (by simp [Value.ownBlock, e]))⟩, .inl rfl⟩
      · simp only [List.size_toArray, List.length_append, List.length_take, List.length_drop, Array.length_toList]
        omega
      · rw [htake, ← hlen]
        exact List.take_left
    · have holds : ∀ j u, xs[j]? = some u → w.cell? ((⟨g, 0, none⟩ : Addr).add j) = some u := hown.cells (g := g) rfl
      have hr := run_append_grow (P := P) w t ty e i z ht hi hz ⟨g, 0, none⟩ n cap xs hown.1 holds a m c news hl hnews (by omega) (by omega) (growslice_fits (by omega) hbytes)
      have hge := grownCap_ge w (n + m) cap e
      have hcm2 : grownCap w (n + m) cap e ≤ maxLen := grownCap_le_maxLen w (n + m) cap e h63
      refine ⟨_, _, hr, ⟨hlen, .inr ⟨w.heap.size, _, _, (0, 0), rfl, hbase, heap_alloc_new w.drew _, Nat.zero_le _, hge, hcm2, ?_, ?_⟩⟩, ⟨rfl, rfl, rfl, by simp, fun k hk _ => Below.heap_alloc w.drew _ k hk⟩, .inr ⟨_, rfl, Nat.le_refl _⟩⟩
      · simp only [Array.size_append, List.size_toArray, size_zeroCells, hzs, hown.1, hl, ← Nat.add_mul]
        congr 1
        omega
      · simp only [Array.toList_append, List.append_assoc]
        rw [← List.append_assoc, ← hlen]
        exact List.take_left

theorem wpList_append_ownX {ops : Array Oper} {rest : List Oper} {o : Oper} {a : Act} {Q : Exit → Act → World → Prop} (hgd : o.guard = none) (s x : Operand) (t : TypeId)
    (ho : o.op = .call { callee := .builtin .append, args := #[s, x], argTypes := #[t, t] })
    (base : Nat) (e : TypeId) (i : TypeInfo) (z : Value) (size bytes : Nat) (ht : P.underlying t = some (.slice e)) (hi : P.info? e = some i) (hz : i.zero = some z)
    (hsize : i.size = size) (hby : i.bytes = bytes) (hzs : z.cells.size = size) (hsz : 0 < size)
    (v : Value) (n : Nat) (xs : List Value) (hs : a.eval s = v) (hown : w.ownsRowF base e size v n xs)
    (ad : Addr) (m c : Nat) (news : List Value) (hx : a.eval x = .slice (some ad) m c) (hl : news.length = m * size) (hnews : ∀ j u, news[j]? = some u → w.cell? (ad.add j) = some u) (h1 : ∀ u ∈ news, u.oneCell' = true)
    (h63 : n + m ≤ maxLen) (hbytes : (n + m) * bytes ≤ 140737488355328) (hbase : base ≤ w.heap.size)
    (h : ∀ v' w', w'.ownsRowF base e size v' (n + m) (xs ++ news) → w.grownBy w' v.ownBlock → (v'.ownBlock = v.ownBlock ∨ ∃ g, v'.ownBlock = some g ∧ w.heap.size ≤ g) → wpList P ops Q rest (a.put o.dst v') w') : wpList P ops Q (o :: rest) a w := by
  refine wpList_plain hgd fun K hK => ?_
  obtain ⟨v', w', hr, h2, h3, h4⟩ := run_append_ownX (P := P) w base t o.type e i z size bytes ht hi hz hsize hby hzs hsz v n xs hown ad m c news hl hnews h1 h63 hbytes hbase
  unfold Oper.wp execOp
  simp only [ho, resolve, invoke, builtin, Sem.run_bind, Sem.run_pure, Result.andThen_ok, List.map_toArray, List.map_cons, List.map_nil, hs, hx, hr]
  exact hK _ _ (h v' w' h2 h3 h4)
end

/-- A builder (type T, bytes of type e) in block b whose buffer is the slice v and holds bs; nothing of it lies below B. -/
def Bld (T e : TypeId) (B b : Nat) (v : Value) (bs : List Value) (w : World) : Prop :=
  B ≤ b ∧ (∃ p, (p = .pointer none ∨ p = .pointer (some ⟨b, 0, none⟩)) ∧ w.heap[b]? = some (.cells #[p, v] T (0, 0))) ∧ w.ownsRowF B e 1 v bs.length bs ∧ v.ownBlock ≠ some b

theorem Bld.isF {T e : TypeId} {B b : Nat} {v : Value} {bs : List Value} {w : World} (h : Bld T e B b v bs w) : Lib.IsBuilderF T e B b bs w := by
  obtain ⟨hB, ⟨p, hp, hb⟩, hown, hne⟩ := h
  rcases hp with rfl | rfl
  · exact .inl ⟨hB, v, hb, hown, hne⟩
  · exact .inr ⟨hB, v, hb, hown, hne⟩

theorem Bld.lt {T e : TypeId} {B b : Nat} {v : Value} {bs : List Value} {w : World} (h : Bld T e B b v bs w) : b < w.heap.size := by
  obtain ⟨_, ⟨p, _, hb⟩, _⟩ := h
  exact (Array.getElem?_eq_some_iff.1 hb).1

/-- what a builder's writer leaves as it was: all but its own block and its buffer's -/
def Aside (b : Nat) (v : Value) (w w' : World) : Prop := ∀ k, k < w.heap.size → k ≠ b → v.ownBlock ≠ some k → w'.heap[k]? = w.heap[k]?

/-- a buffer stays where it was, or lies in a new block -/
def Fresh (v v' : Value) (w : World) : Prop := v'.ownBlock = v.ownBlock ∨ ∃ g, v'.ownBlock = some g ∧ w.heap.size ≤ g

theorem Bld.kept {T e : TypeId} {B b : Nat} {v : Value} {bs : List Value} {w w' : World} (h : Bld T e B b v bs w) (hk : ∀ k, k < w.heap.size → w'.heap[k]? = w.heap[k]?) : Bld T e B b v bs w' := by
  have hlt := h.lt
  obtain ⟨hB, ⟨p, hp, hb⟩, ⟨hl, hown⟩, hne⟩ := h
  refine ⟨hB, ⟨p, hp, (hk b hlt).trans hb⟩, ⟨hl, ?_⟩, hne⟩
  rcases hown with h | ⟨g, cap, cur, fz, q1, q2, q3, q4⟩
  · exact .inl h
  · exact .inr ⟨g, cap, cur, fz, q1, q2, (hk g (Array.getElem?_eq_some_iff.1 q3).1).trans q3, q4⟩

theorem Bld.alloc {T e : TypeId} {B b : Nat} {v : Value} {bs : List Value} {w : World} (h : Bld T e B b v bs w) (o : Obj) : Bld T e B b v bs (w.alloc o) :=
  h.kept fun k hk => Below.heap_alloc w o k hk

theorem Bld.fresh (T e : TypeId) (w : World) : Bld T e w.heap.size w.heap.size (.slice none 0 0) [] (w.alloc (.cells #[.pointer none, .slice none 0 0] T)) :=
  ⟨Nat.le_refl _, ⟨_, .inl rfl, _root_.Go.heap_alloc_new w _⟩, World.ownsRowF_nil _ _ _ _, by simp [Value.ownBlock]⟩

/-- a new buffer is laid into a builder -/
theorem Bld.put {T e : TypeId} {B b : Nat} {p v v' : Value} {bs : List Value} {w : World} (hB : B ≤ b) (hp : p = .pointer none ∨ p = .pointer (some ⟨b, 0, none⟩)) (hb : w.heap[b]? = some (.cells #[p, v] T (0, 0))) (hown : w.ownsRowF B e 1 v' bs.length bs) (hTe : T ≠ e) :
    Bld T e B b v' bs (w.setCell ⟨b, 1, none⟩ v') := by
  have hne : v'.ownBlock ≠ some b := by
    intro h
    rcases hown.2 with ⟨h1, _⟩ | ⟨g, cap, cur, fz, q1, q2, q3, q4⟩
    · rw [h1] at h; cases h
    · rw [q1] at h
      have hg : g = b := by simpa [Value.ownBlock] using h
      rw [hg, hb] at q3
      simp only [Option.some.injEq, Obj.cells.injEq] at q3
      exact hTe q3.2.1
  have ho : ∀ k, k ≠ b → (w.setCell ⟨b, 1, none⟩ v').heap[k]? = w.heap[k]? := fun k hk => Below.heap_setCell w _ _ k hk
  refine ⟨hB, ⟨p, hp, ?_⟩, ⟨hown.1, ?_⟩, hne⟩
  · simp only [World.setCell, Array.getElem?_modify, hb]
    simp
  · rcases hown.2 with h | ⟨g, cap, cur, fz, q1, q2, q3, q4⟩
    · exact .inl h
    · exact .inr ⟨g, cap, cur, fz, q1, q2, (ho g (fun e => hne (by rw [q1, e]; rfl))).trans q3, q4⟩

/-- a block beside a builder: neither the builder's nor its buffer's -/
def Beside (R : Nat) (o : Obj) (b : Nat) (v : Value) (w : World) : Prop := w.heap[R]? = some o ∧ R ≠ b ∧ v.ownBlock ≠ some R

theorem Beside.step {R : Nat} {o : Obj} {b : Nat} {v v' : Value} {w w' : World} (h : Beside R o b v w) (ha : Aside b v w w') (hf : Fresh v v' w) : Beside R o b v' w' := by
  obtain ⟨h1, h2, h3⟩ := h
  have hlt : R < w.heap.size := (Array.getElem?_eq_some_iff.1 h1).1
  refine ⟨(ha R hlt h2 h3).trans h1, h2, ?_⟩
  rcases hf with h | ⟨g, h, hg⟩
  · rw [h]; exact h3
  · rw [h]; intro e; simp at e; omega

theorem Beside.cell {R : Nat} {C : Array Value} {t : TypeId} {fz : Nat × Nat} {b : Nat} {v : Value} {w : World} (h : Beside R (.cells C t fz) b v w) (j : Nat) : w.cell? ⟨R, j, none⟩ = C[j]? := by
  rw [cell_of_row w R j C t fz h.1]

/-- what a text's bytes lie in -/
theorem conv_bytes {P : Program} (w : World) (src dst e : TypeId) (l : List UInt8) (hs : P.underlying src = some .string) (hd : P.underlying dst = some (.slice e)) (he : P.underlying e = some (.int .u8)) :
    ∃ cap C fz w', (convert src dst (.string ⟨l.toArray⟩)).run P w = .ok (.slice (some ⟨w.heap.size, 0, none⟩) l.length cap) w' ∧ w'.heap[w.heap.size]? = some (.cells C e fz) ∧ (∀ j (h : j < l.length), C[j]? = some (.int .u8 (l[j].toNat : Int))) ∧ Below w.heap.size w w' ∧ w.heap.size < w'.heap.size := by
  refine ⟨_, _, _, _, run_bytes_of_string w src dst e ⟨l.toArray⟩ hs hd he, _root_.Go.heap_alloc_new w.drew _, ?_, ((Below.refl _ w).drew).alloc (Nat.le_refl _) _, by simp⟩
  intro j hj
  unfold bytesRow
  rw [Array.getElem?_append_left (by simpa using hj)]
  simp [hj]

theorem below_all {w w' : World} (h : Below w.heap.size w w') : ∀ k, k < w.heap.size → w'.heap[k]? = w.heap[k]? := h.block

/-- the append law behind a frozen head, as one step of a region that draws its order -/
theorem step_append_ownX {P : Program} {ops : Array Oper} {o : Oper} {a : Act} {w : World} {K : Act → World → Prop} {Q : Exit → Act → World → Prop} {E : Prop}
    (hgd : o.guard = none) (s x : Operand) (t : TypeId) (ho : o.op = .call { callee := .builtin .append, args := #[s, x], argTypes := #[t, t] })
    (base : Nat) (e : TypeId) (i : TypeInfo) (z : Value) (size bytes : Nat) (ht : P.underlying t = some (.slice e)) (hi : P.info? e = some i) (hz : i.zero = some z)
    (hsize : i.size = size) (hby : i.bytes = bytes) (hzs : z.cells.size = size) (hsz : 0 < size)
    (v : Value) (n : Nat) (xs : List Value) (hs : a.eval s = v) (hown : w.ownsRowF base e size v n xs)
    (ad : Addr) (m c : Nat) (news : List Value) (hx : a.eval x = .slice (some ad) m c) (hl : news.length = m * size) (hnews : ∀ j u, news[j]? = some u → w.cell? (ad.add j) = some u) (h1 : ∀ u ∈ news, u.oneCell' = true)
    (h63 : n + m ≤ maxLen) (hbytes : (n + m) * bytes ≤ 140737488355328) (hbase : base ≤ w.heap.size)
    (h : ∀ v' w', w'.ownsRowF base e size v' (n + m) (xs ++ news) → w.grownBy w' v.ownBlock → (v'.ownBlock = v.ownBlock ∨ ∃ g, v'.ownBlock = some g ∧ w.heap.size ≤ g) → K (a.put o.dst v') w') :
    if Region.wanted o (yielded ops a.tmps) = true then Oper.wp P o a w K Q else E := by
  have hw : Region.wanted o (yielded ops a.tmps) = true := by simp [Region.wanted, hgd]
  rw [if_pos hw]
  obtain ⟨v', w', hr, h2, h3, h4⟩ := run_append_ownX (P := P) w base t o.type e i z size bytes ht hi hz hsize hby hzs hsz v n xs hown ad m c news hl hnews h1 h63 hbytes hbase
  unfold Oper.wp
  simp [execOp, ho, resolve, invoke, builtin, hs, hx, hr, Result.andThen]
  exact h v' w' h2 h3 h4

/-- cells of a new block, by their list -/
theorem new_cells (w : World) (C : List Value) (t : TypeId) : ∀ j u, C[j]? = some u → (w.alloc (.cells C.toArray t)).cell? ((⟨w.heap.size, 0, none⟩ : Addr).add j) = some u := by
  intro j u hj
  have hadd : (⟨w.heap.size, 0, none⟩ : Addr).add j = ⟨w.heap.size, j, none⟩ := by unfold Addr.add; split <;> simp_all
  rw [hadd, cell_of_row _ w.heap.size j C.toArray t (0, 0) (_root_.Go.heap_alloc_new w _)]
  simpa using hj

/-- the text of a row of bytes that the call owns -/
theorem conv_string {P : Program} (w : World) (src dst e : TypeId) (B : Nat) (v : Value) (l : List UInt8) (hs : P.underlying src = some (.slice e)) (he : P.underlying e = some (.int .u8)) (hd : P.underlying dst = some .string)
    (h : w.ownsRowF B e 1 v l.length (Lib.byteCells l)) : (convert src dst v).run P w = .ok (.string ⟨l.toArray⟩) w := by
  rcases h.2 with ⟨rfl, h0⟩ | ⟨g, cap, cur, fz, rfl, _⟩
  · have : l = [] := List.eq_nil_of_length_eq_zero h0
    subst this
    rw [run_convert_bytes_string w src dst e none 0 0 hs he hd]
    rfl
  · refine run_convert_bytes_back w src dst e ⟨g, 0, none⟩ cap l hs he hd ?_
    intro j hj
    exact h.cells (g := g) rfl j _ (by simp [Lib.byteCells, hj])

theorem ba_at (l : List UInt8) (k : Nat) (h : k < (⟨l.toArray⟩ : ByteArray).size) : (⟨l.toArray⟩ : ByteArray)[k]'h = l[k]'(h) := rfl

theorem one_cell (c : Int) (k : IntKind) : ∀ u ∈ [Value.int k c], u.oneCell' = true := by intro u hu; simp at hu; subst hu; rfl

theorem byteCells_snoc (l : List UInt8) (c : UInt8) : Lib.byteCells (l ++ [c]) = Lib.byteCells l ++ [.int .u8 (c.toNat : Int)] := by rw [Lib.byteCells_append]; rfl

theorem wrap_u8 {n : Int} (h0 : 0 ≤ n) (h1 : n < 256) : IntKind.u8.wrap n = n := by
  simp [IntKind.wrap, IntKind.bits, IntKind.signed]
  omega

theorem ret_two {k k' : IntKind} {a b a' b' : Int} (h : a = a') (h' : b = b') : Ending.returned (.tuple #[.int k a, .int k' b]) = .returned (.tuple #[.int k a', .int k' b']) := by rw [h, h']

theorem Bld.drewN {T e : TypeId} {B b : Nat} {v : Value} {bs : List Value} {w : World} (h : Bld T e B b v bs w) (n : Nat) : Bld T e B b v bs (w.drewN n) := h.kept fun _ _ => rfl

theorem wrap_i64 {n : Int} (h0 : -9223372036854775808 ≤ n) (h1 : n ≤ 9223372036854775807) : IntKind.i64.wrap n = n := by
  simp [IntKind.wrap, IntKind.bits, IntKind.signed]
  split <;> omega

/-- the byte at a place of a text -/
theorem idx_str {P : Program} (t : TypeId) (h : P.underlying t = some .string) (L : List UInt8) (i : Int) (k : Nat) (hk : k < L.length) (hi : i = k) (w : World) :
    (Instr.index t (.string ⟨L.toArray⟩) (.int .i64 i)).run P w = .ok (.int .u8 (L[k].toNat : Int)) w := by
  subst hi
  rw [run_index_string w t ⟨L.toArray⟩ .i64 (k : Int) h]
  have hs : (⟨L.toArray⟩ : ByteArray).size = L.length := rfl
  rw [dif_pos ⟨by omega, by rw [hs]; omega⟩]
  rfl

/-- a call that leaves the world as it was, as one step of a region that draws its order -/
theorem step_call1 {P : Program} {ops : Array Oper} {o : Oper} {a : Act} {w : World} {K : Act → World → Prop} {Q : Exit → Act → World → Prop} {E : Prop}
    (hgd : o.guard = none) (f : FuncId) (x : Operand) (ts : Array TypeId) (ho : o.op = .call { callee := .value (.func f), args := #[x], argTypes := ts })
    (hent : ∀ args w, (callFunc f args).run P w = .ok (.enter f args) w) (av v : Value) (hx : a.eval x = av)
    (hc : Calls P f #[av] w fun e w' => e = .returned v ∧ w' = w) (hK : K (a.put o.dst v) w) :
    if Region.wanted o (yielded ops a.tmps) = true then Oper.wp P o a w K Q else E := by
  have hw : Region.wanted o (yielded ops a.tmps) = true := by simp [Region.wanted, hgd]
  rw [if_pos hw]
  unfold Oper.wp
  have e : (execOp a.eval o).run P w = .ok (.enter f #[av]) w := by
    have h1 := hent #[av] w
    simp only [execOp, ho, resolve, invoke, Act.eval]
    simp only [Deferred.ofValue, Sem.run_bind, Sem.run_pure, Result.andThen_ok, List.map_toArray, List.map_cons, List.map_nil, hx, Array.append_empty]
    exact h1
  rw [e, Oper.upon_enter]
  refine hc.mono ?_
  rintro e w' ⟨rfl, rfl⟩
  exact hK

end Go.Proofs.YtnlbjknfahhfaaaGreatDoor.Tx

/- Bytes and texts as the walks of layer canon compare them. -/
set_option maxRecDepth 20000
namespace Go.Proofs.YtnlbjknfahhfaaaGreatDoor.Tx
open Cn Go.RowKit

theorem toNat_ne {x c : UInt8} (h : x ≠ c) : x.toNat ≠ c.toNat := fun e => h (UInt8.toNat_inj.1 e)
theorem not10 {x : UInt8} (h : x ≠ 10) : ((x.toNat : Int) == 10) = false ∧ ((x.toNat : Int) != 10) = true := by
  have : x.toNat ≠ 10 := toNat_ne h
  constructor
  · rw [beq_eq_false_iff_ne]; omega
  · rw [bne_iff_ne]; omega
theorem not9 {x : UInt8} (h : x ≠ 9) : ((x.toNat : Int) == 9) = false ∧ ((x.toNat : Int) != 9) = true := by
  have : x.toNat ≠ 9 := toNat_ne h
  constructor
  · rw [beq_eq_false_iff_ne]; omega
  · rw [bne_iff_ne]; omega

/-- white space by a byte's number -/
def whI (n : Int) : Bool := decide (n = 32 ∨ (9 ≤ n ∧ n ≤ 13 ∧ n ≠ 10))
theorem wh_num (c : UInt8) : whI (c.toNat : Int) = wh c := by
  have h : ∀ c : Fin 256, whI ((UInt8.ofNat c.val).toNat : Int) = wh (UInt8.ofNat c.val) := by decide +kernel
  have := h ⟨c.toNat, c.toNat_lt⟩
  simpa using this

def sizeT : Value → Nat
  | .string s => s.size
  | _ => 0
theorem sizeT_mk (r : List UInt8) : sizeT (.string ⟨r.toArray⟩) = r.length := rfl

theorem bare_nil : bareL [] = [] ∧ feedB [] = false := ⟨rfl, rfl⟩
theorem bare_yes {l : List UInt8} (h0 : 0 < l.length) (h : l[l.length - 1] = 10) : bareL l = l.take (l.length - 1) ∧ feedB l = true := by
  have hf : feedB l = true := by unfold feedB; rw [List.getLast?_eq_getElem?, List.getElem?_eq_getElem (by omega), h]; rfl
  exact ⟨by rw [bareL, hf, List.dropLast_eq_take]; rfl, hf⟩
theorem bare_no {l : List UInt8} (h0 : 0 < l.length) (h : l[l.length - 1] ≠ 10) : bareL l = l ∧ feedB l = false := by
  have hf : feedB l = false := by unfold feedB; rw [List.getLast?_eq_getElem?, List.getElem?_eq_getElem (by omega)]; simpa using h
  exact ⟨by rw [bareL, hf]; rfl, hf⟩

theorem cut_last {r : List UInt8} (h0 : 0 < r.length) : r = r.take (r.length - 1) ++ [r[r.length - 1]] := by
  have := List.take_append_getElem (l := r) (i := r.length - 1) (by omega)
  rw [this, List.take_of_length_le (by omega)]
theorem tr_last {r : List UInt8} (h0 : 0 < r.length) (h : wh r[r.length - 1] = true) : trL (r.take (r.length - 1)) = trL r := by
  conv => rhs; rw [cut_last h0]
  exact (tr_white _ h).symm
theorem tr_stay {r : List UInt8} (h0 : 0 < r.length) (h : wh r[r.length - 1] = false) : trL r = r := by
  conv => lhs; rw [cut_last h0]
  rw [tr_keep _ h]
  exact (cut_last h0).symm

theorem infoU8 : (Tryz.prog.info? 5).map (fun i => (i.zero, i.size, i.bytes)) = some (some (.int .u8 0), 1, 1) := by kernel_rfl

theorem low_yes {c : UInt8} (h : 65 ≤ c.toNat ∧ c.toNat ≤ 90) : ((low c).toNat : Int) = (c.toNat : Int) - 65 + 97 := by
  have e : low c = c + 32 := by rw [low, if_pos h]
  rw [e, UInt8.toNat_add]
  have : (32 : UInt8).toNat = 32 := rfl
  rw [this]
  omega
theorem low_no {c : UInt8} (h : ¬ (65 ≤ c.toNat ∧ c.toNat ≤ 90)) : low c = c := by rw [low, if_neg h]
end Go.Proofs.YtnlbjknfahhfaaaGreatDoor.Tx

/- The plain functions of the reference of layer canon, walked: white space, a text without the white space at its end, small letters, a line without its line feed. -/
set_option maxRecDepth 20000
namespace Go.Proofs.YtnlbjknfahhfaaaGreatDoor.Tx
open Cn Go.RowKit
attribute [local go_sem] ba_at ByteArray.extract_mk

end Go.Proofs.YtnlbjknfahhfaaaGreatDoor.Tx

/- The plain functions of the reference of layer canon, walked: a text without white space or with one blank for each run of it, and a text with blanks in the place of tabs. -/
set_option maxRecDepth 20000
namespace Go.Proofs.YtnlbjknfahhfaaaGreatDoor.Tx
open Cn Go.RowKit
attribute [local go_sem] ba_at ByteArray.extract_mk

/-- whether a run of white space is under way ahead of a place -/
def wasAt (l : List UInt8) (k : Nat) : Bool := decide (0 < k) && (l[k - 1]?.map wh).getD false
theorem was_next {l : List UInt8} {k : Nat} (h : k < l.length) : wasAt l (k + 1) = wh l[k] := by
  unfold wasAt
  rw [decide_eq_true (Nat.succ_pos k), Nat.add_sub_cancel, List.getElem?_eq_getElem h]; rfl
theorem was_prev {l : List UInt8} {k : Nat} (h0 : 0 < k) (h : k - 1 < l.length) : wasAt l k = wh l[k - 1] := by
  unfold wasAt
  rw [decide_eq_true h0, List.getElem?_eq_getElem h]; rfl
theorem wo_white_none {c : UInt8} (h : wh c = true) {blank was : Bool} (hb : (blank && !was) = false) (r : List UInt8) : wo blank was (c :: r) = wo blank true r := by simp [wo, h, hb]

end Go.Proofs.YtnlbjknfahhfaaaGreatDoor.Tx

/- Layer canon and its reference, walked: a text with small letters (in place, in new bytes), and the reference's text with blanks in the place of tabs. -/
set_option maxRecDepth 20000
namespace Go.Proofs.YtnlbjknfahhfaaaGreatDoor.Tx
open Cn Go.RowKit
attribute [local go_sem] ba_at ByteArray.extract_mk

/-- what a text's bytes lie in; they may be written -/
theorem conv_new {P : Program} (w : World) (src dst e : TypeId) (l : List UInt8) (hs : P.underlying src = some .string) (hd : P.underlying dst = some (.slice e)) (he : P.underlying e = some (.int .u8)) :
    ∃ cap C n w', (convert src dst (.string ⟨l.toArray⟩)).run P w = .ok (.slice (some ⟨w.heap.size, 0, none⟩) l.length cap) w' ∧ w'.heap[w.heap.size]? = some (.cells C e (n, n + 1)) ∧ C.size = n ∧ (∀ j (h : j < l.length), C[j]? = some (.int .u8 (l[j].toNat : Int))) ∧ Below w.heap.size w w' := by
  refine ⟨_, _, _, _, run_bytes_of_string w src dst e ⟨l.toArray⟩ hs hd he, _root_.Go.heap_alloc_new w.drew _, rfl, ?_, ((Below.refl _ w).drew).alloc (Nat.le_refl _) _⟩
  intro j hj
  unfold bytesRow
  rw [Array.getElem?_append_left (by simpa using hj)]
  simp [hj]

/-- a slice's length -/
def lenS : Value → Nat
  | .slice _ n _ => n
  | _ => 0
theorem lenS_own {w : World} {B : Nat} {e : TypeId} {size : Nat} {v : Value} {n : Nat} {xs : List Value} (h : w.ownsRowF B e size v n xs) : ∃ ao cap, v = .slice ao n cap := by
  rcases h.2 with ⟨rfl, rfl⟩ | ⟨g, cap, cur, fz, q1, _⟩
  · exact ⟨_, _, rfl⟩
  · exact ⟨_, _, q1⟩

/-- a row of which the first ones are small -/
def Part (l : List UInt8) (k : Nat) (C : Array Value) : Prop := (∀ j (h : j < l.length), j < k → C[j]? = some (.int .u8 ((low l[j]).toNat : Int))) ∧ ∀ j (h : j < l.length), k ≤ j → C[j]? = some (.int .u8 (l[j].toNat : Int))

set_option maxHeartbeats 1000000 in
theorem inSmall_any (l : List UInt8) (w : World) (hl : l.length ≤ 1099511627776) :
    Calls Tryz.prog 153 #[.string ⟨l.toArray⟩] w fun e w' => e = .returned (.string ⟨(smL l).toArray⟩) ∧ Below w.heap.size w w' := by
  obtain ⟨cap, C0, n, w2, hcv, hR, hn0, hC0, hb2⟩ := conv_new (P := Tryz.prog) w 9 60 5 l Tryz.underlying9 Tryz.underlying60 Tryz.underlying5
  generalize hg : w.heap.size = g at *
  have HG : Hid (w.heap.size = g) := hg
  clear hg
  go_enter Tryz.func153, Tryz.ntmps153
  go_wp2
  go_loopw [4, 5, 10] (fun _ _ i wr => ∃ (k : Nat) (C : Array Value), k ≤ l.length ∧ i = .int .i64 k ∧ wr.heap[g]? = some (.cells C 5 (n, n + 1)) ∧ C.size = n ∧ Hid (Part l k C) ∧ Below g w wr) (fun _ _ i _ => l.length - (intOf i).toNat)
  case atStart => exact ⟨0, C0, Nat.zero_le _, rfl, hR, hn0, ⟨fun j h hj => absurd hj (Nat.not_lt_zero j), fun j h _ => hC0 j h⟩, hb2⟩
  case round =>
    obtain ⟨k, C, hk, rfl, hgC, hCn, HC, hbr⟩ := hrel
    by_cases hlt : k < l.length
    · have hck : wr.cell? ⟨g, k, none⟩ = some (.int .u8 (l[k].toNat : Int)) := by rw [Lib.cell_of_heap hgC]; exact HC.out.2 k hlt (Nat.le_refl _)
      have hCs : k < C.size := by
        have := HC.out.2 k hlt (Nat.le_refl _)
        exact (Array.getElem?_eq_some_iff.1 this).1
      have hfk : wr.frozen? ⟨g, k, none⟩ = false := by
        simp only [World.frozen?, hgC]
        rw [decide_eq_false (by omega)]; rfl
      have i1 : 0 ≤ (k : Int) := by omega
      have i2 : (k : Int) < (l.length : Int) := by omega
      by_cases hc : 65 ≤ l[k].toNat ∧ l[k].toNat ≤ 90
      · have HL : Hid (((low l[k]).toNat : Int) = (l[k].toNat : Int) - 65 + 97) := low_yes hc
        have c1 : (65 : Int) ≤ (l[k].toNat : Int) := by omega
        have c2 : (l[k].toNat : Int) ≤ 90 := by omega
        go_wp2
        go_roundw
        case rel =>
          refine ⟨k + 1, C.setIfInBounds k (.int .u8 ((l[k].toNat : Int) - 65 + 97)), by omega, by go_num, ?_, by simpa using hCn, ⟨fun j h hj => ?_, fun j h hj => ?_⟩, hbr.setCell (p := ⟨g, k, none⟩) (Nat.le_refl _) _⟩
          · simp only [World.setCell, Array.getElem?_modify, hgC]
            simp
          · rw [← HL.out, Array.getElem?_setIfInBounds]
            by_cases e : k = j
            · subst e; rw [if_pos rfl, if_pos hCs]
            · rw [if_neg e]; exact HC.out.1 j h (by omega)
          · rw [Array.getElem?_setIfInBounds, if_neg (by omega)]
            exact HC.out.2 j h (by omega)
        case measure => simp [intOf]; omega
      · have HL : Hid (low l[k] = l[k]) := low_no hc
        have hcc : decide ((65 : Int) ≤ (l[k].toNat : Int)) = false ∨ (decide ((65 : Int) ≤ (l[k].toNat : Int)) = true ∧ decide ((l[k].toNat : Int) ≤ 90) = false) := by
          by_cases h65 : 65 ≤ l[k].toNat
          · exact .inr ⟨decide_eq_true (by omega), decide_eq_false (by omega)⟩
          · exact .inl (decide_eq_false (by omega))
        have HP : Hid (Part l (k + 1) C) := by
          refine ⟨fun j h hj => ?_, fun j h hj => HC.out.2 j h (by omega)⟩
          by_cases e : j = k
          · subst e; rw [HL.out]; exact HC.out.2 j h (Nat.le_refl _)
          · exact HC.out.1 j h (by omega)
        rcases hcc with c1 | ⟨c1, c2⟩
        all_goals
          go_wp2
          go_roundw
          case rel => exact ⟨k + 1, C, by omega, by go_num, hgC, hCn, HP, hbr⟩
          case measure => simp [intOf]; omega
    · have hcs : (convert 60 9 (.slice (some ⟨g, 0, none⟩) l.length cap)).run Tryz.prog wr = .ok (.string ⟨(smL l).toArray⟩) wr := by
        have e : l.length = (smL l).length := (sm_len l).symm
        rw [e]
        refine run_convert_bytes_back wr 60 9 5 ⟨g, 0, none⟩ cap (smL l) Tryz.underlying60 Tryz.underlying5 Tryz.underlying9 ?_
        intro j hj
        have hj' : j < l.length := by rw [e]; exact hj
        have hadd : (⟨g, 0, none⟩ : Addr).add j = ⟨g, j, none⟩ := by unfold Addr.add; split <;> simp_all
        rw [hadd, Lib.cell_of_heap hgC]
        have := HC.out.1 j hj' (by omega)
        simpa [smL] using this
      go_wp2
      go_ret
      exact ⟨rfl, hbr⟩

end Go.Proofs.YtnlbjknfahhfaaaGreatDoor.Tx

/- What is ignored, as a value and as a variable's cells; the steps of the reference's text, walked one behind the other. -/
set_option maxRecDepth 20000
namespace Go.Proofs.YtnlbjknfahhfaaaGreatDoor.Tx
open Cn Go.RowKit
attribute [local go_sem] ba_at ByteArray.extract_mk

/-- what is ignored, as a value -/
def igV (o : Ig) : Value := .agg #[.bool o.sp, .bool o.wt, .bool o.bl, .bool o.cs, .bool o.tb, .bool o.tr]
/-- a variable that holds it -/
def Boxed (o : Ig) (b : Nat) (w : World) : Prop := w.heap[b]? = some (.cells #[.bool o.sp, .bool o.wt, .bool o.bl, .bool o.cs, .bool o.tb, .bool o.tr] 31 (0, 0))
theorem Boxed.keep {o : Ig} {b : Nat} {w w' : World} (h : Boxed o b w) (hb : Below w.heap.size w w') : Boxed o b w' :=
  (hb.block b (Array.getElem?_eq_some_iff.1 h).1).trans h
theorem Boxed.fresh (o : Ig) (w : World) : Boxed o w.heap.size (w.alloc (.cells #[.bool o.sp, .bool o.wt, .bool o.bl, .bool o.cs, .bool o.tb, .bool o.tr] 31)) := _root_.Go.heap_alloc_new w _
theorem Boxed.cells {o : Ig} {b : Nat} {w : World} (h : Boxed o b w) : w.cell? ⟨b, 0, none⟩ = some (.bool o.sp) ∧ w.cell? ⟨b, 1, none⟩ = some (.bool o.wt) ∧ w.cell? ⟨b, 2, none⟩ = some (.bool o.bl) ∧ w.cell? ⟨b, 3, none⟩ = some (.bool o.cs) ∧ w.cell? ⟨b, 4, none⟩ = some (.bool o.tb) ∧ w.cell? ⟨b, 5, none⟩ = some (.bool o.tr) := by
  refine ⟨?_, ?_, ?_, ?_, ?_, ?_⟩ <;> rw [Lib.cell_of_heap h] <;> rfl

theorem stg_no {o : Ig} {k : Nat} (h : Cn.ask o k = false) (l : List UInt8) : stg o (k + 1) l = stg o k l := by rw [stg, h]; rfl
theorem stg_yes {o : Ig} {k : Nat} (h : Cn.ask o k = true) (l : List UInt8) : stg o (k + 1) l = act k (stg o k l) := by rw [stg, h]; rfl

end Go.Proofs.YtnlbjknfahhfaaaGreatDoor.Tx

/- The reference's form of a line, and the steps of layer canon in their memory, walked. -/
set_option maxRecDepth 20000
namespace Go.Proofs.YtnlbjknfahhfaaaGreatDoor.Tx
open Cn Go.RowKit
theorem ba_cat (a b : List UInt8) : ((⟨a.toArray⟩ : ByteArray) ++ (⟨b.toArray⟩ : ByteArray)) = ⟨(a ++ b).toArray⟩ := by
  apply ByteArray.ext
  simp [ByteArray.data_append]
attribute [local go_sem] ba_at ByteArray.extract_mk ba_cat

theorem new2 (w : World) (x y : Obj) : ((w.alloc x).alloc y).heap[w.heap.size + 1]? = some y := by
  have h := _root_.Go.heap_alloc_new (w.alloc x) y
  have e : (w.alloc x).heap.size = w.heap.size + 1 := by simp
  rwa [e] at h
/-- the steps as they lie in memory -/
def Stepped (o : Ig) (g : Nat) (w : World) : Prop :=
  w.heap[g]? = some (.cells #[.bool o.tb, .func (.func 149) #[] #[], .bool o.wt, .func (.func 150) #[] #[], .bool o.sp, .func (.func 151) #[] #[], .bool o.tr, .func (.func 152) #[] #[], .bool o.cs, .func (.func 153) #[] #[]] 230 (0, 0))
theorem Stepped.keep {o : Ig} {g : Nat} {w w' : World} (h : Stepped o g w) (hb : Below w.heap.size w w') : Stepped o g w' :=
  (hb.block g (Array.getElem?_eq_some_iff.1 h).1).trans h

set_option maxHeartbeats 1000000 in
theorem steps_any (o : Ig) (w : World) :
    Calls Tryz.prog 133 #[igV o] w fun e w' => ∃ g, e = .returned (.slice (some ⟨g, 0, none⟩) 5 5) ∧ Stepped o g w' ∧ Below w.heap.size w w' := by
  unfold igV
  go_enter Tryz.func133, Tryz.ntmps133
  go_wp2
  go_ret
  exact ⟨w.heap.size + 1, rfl, new2 w _ _, ((Below.refl _ w).alloc (Nat.le_refl _) _).alloc (by simp) _⟩
end Go.Proofs.YtnlbjknfahhfaaaGreatDoor.Tx

/- The library's contracts on writing into a strings.Builder and on strings.TrimRight with five bytes of white space, at this program: the program bears the bodies that they speak of. -/
set_option maxRecDepth 20000
namespace Go.Proofs
open Go.Shelf Go.RowKit Go.Lib
def Tryz.lays167_ren : Go.Shelf.Ren := ⟨fun | 167 => 167 | n => Tryz.lays105_ren.f n, Tryz.lays105_ren.t, Tryz.lays105_ren.g⟩
theorem Tryz.lays167 : Go.Proofs.Lays.n167 Tryz.prog Tryz.lays167_ren := {
  mixed := Tryz.lays105.mixed
  f167 := Tryz.func167.trans (congrArg some (by kernel_rfl))
  f240 := Tryz.func46.trans (congrArg some (by kernel_rfl))
  f276 := Tryz.func76.trans (congrArg some (by kernel_rfl))
  t0 := Tryz.lays105.t0
  a0 := Tryz.lays105.a0
  z0 := Tryz.lays105.z0
  v0 := Tryz.lays105.v0
  t4 := Tryz.lays105.t4
  a4 := Tryz.lays105.a4
  z4 := Tryz.lays105.z4
  v4 := Tryz.lays105.v4
  t5 := Tryz.lays105.t5
  a5 := Tryz.lays105.a5
  z5 := Tryz.lays105.z5
  v5 := Tryz.lays105.v5
  t9 := Tryz.lays105.t9
  a9 := Tryz.lays105.a9
  z9 := Tryz.lays105.z9
  v9 := Tryz.lays105.v9
  t20 := Tryz.lays105.t20
  a20 := Tryz.lays105.a20
  z20 := Tryz.lays105.z20
  v20 := Tryz.lays105.v20
  t37 := Tryz.lays105.t37
  a37 := Tryz.lays105.a37
  z37 := Tryz.lays105.z37
  v37 := Tryz.lays105.v37
  t70 := Tryz.lays105.t70
  a70 := Tryz.lays105.a70
  z70 := Tryz.lays105.z70
  v70 := Tryz.lays105.v70
  t72 := Tryz.lays105.t72
  a72 := Tryz.lays105.a72
  z72 := Tryz.lays105.z72
  v72 := Tryz.lays105.v72
  t75 := Tryz.lays105.t75
  a75 := Tryz.lays105.a75
  z75 := Tryz.lays105.z75
  v75 := Tryz.lays105.v75
  t164 := Tryz.lays105.t164
  a164 := Tryz.lays105.a164
  z164 := Tryz.lays105.z164
  v164 := Tryz.lays105.v164 }
theorem Tryz.lays166_here : Go.Proofs.Lays.n166 Tryz.prog Tryz.lays105_ren := { Tryz.lays105 with }
theorem Tryz.Builder_Extra_167 : Builder.Extra Tryz.prog Tryz.lays167_ren := { Tryz.Builder_Extra_105 with }
theorem Tryz.WriteByte_k (B b : Nat) (bs : List Value) (c : Int) (w : World) (h : Lib.IsBuilderF 62 5 B b bs w) (hlen : bs.length + 1 ≤ 140737488355328) (hBw : B ≤ w.heap.size) :
    Calls Tryz.prog 167 #[.pointer (some ⟨b, 0, none⟩), .int .u8 c] w fun e w' => e = .returned .nilIface ∧ (Lib.BuilderAtF 62 5 B b (.pointer (some ⟨b, 0, none⟩)) (bs ++ [.int .u8 c]) w' ∧ Below B w w' ∧ Lib.OthersKept 5 (some b) w w') :=
  Any.Builder_WriteByte_k Tryz.lays167 Tryz.Builder_Extra_167 B b bs c w h hlen hBw
theorem Tryz.WriteString_k (B b : Nat) (bs : List Value) (s : ByteArray) (w : World) (h : Lib.IsBuilderF 62 5 B b bs w) (hlen : bs.length + s.size ≤ 140737488355328) (hBw : B ≤ w.heap.size) :
    Calls Tryz.prog 24 #[.pointer (some ⟨b, 0, none⟩), .string s] w fun e w' => e = .returned (.tuple #[.int .i64 s.size, .nilIface]) ∧ (Lib.BuilderAtF 62 5 B b (.pointer (some ⟨b, 0, none⟩)) (bs ++ Lib.strCells s) w' ∧ Below B w w' ∧ Lib.OthersKept 5 (some b) w w') :=
  Any.Builder_WriteString_k Tryz.lays166_here Tryz.Builder_Extra_105 B b bs s w h hlen hBw
theorem Tryz.TrimRight_white (s : ByteArray) (w : World) (hs : s.size ≤ 9223372036854775807) :
    Calls Tryz.prog 171 #[.string s, .string ⟨#[32, 9, 11, 12, 13]⟩] w fun e w' => e = .returned (.string ⟨(Lib.trimRightS s.data.toList [32, 9, 11, 12, 13]).toArray⟩) ∧ Below w.heap.size w w' :=
  Any.strings_TrimRight_laid Tryz.lays162 (by kernel_rfl) s ⟨#[32, 9, 11, 12, 13]⟩ w hs (by decide) (ascii_of_all (by decide))
end Go.Proofs

/- Small functions of layer canon, walked: white space, a text without the white space at its end, without all white space, with one blank for each run of it, a line without its line feed. -/
set_option maxRecDepth 20000
namespace Go.Proofs.YtnlbjknfahhfaaaGreatDoor.Tx
open Cn Go.RowKit
attribute [local go_sem] ba_at ByteArray.extract_mk

theorem idx_white (c : UInt8) : decide (0 ≤ Lib.indexByte [32, 9, 11, 12, 13] c) = wh c := by
  have h : ∀ c : Fin 256, decide (0 ≤ Lib.indexByte [32, 9, 11, 12, 13] (UInt8.ofNat c.val)) = wh (UInt8.ofNat c.val) := by decide +kernel
  have := h ⟨c.toNat, c.toNat_lt⟩
  simpa using this

set_option maxHeartbeats 400000 in
theorem isWhite_any (c : UInt8) (w : World) :
    Calls Tryz.prog 170 #[.int .u8 (c.toNat : Int)] w fun e w' => e = .returned (.bool (wh c)) ∧ w = w' := by
  rw [← idx_white]
  generalize hq : Lib.indexByte [32, 9, 11, 12, 13] c = q
  go_enter Tryz.func170, Tryz.ntmps170
  go_wp2_with fail
  refine (Tryz.strings_IndexByte ⟨#[32, 9, 11, 12, 13]⟩ (c.toNat : Int) _).mono ?_
  rintro e w1 ⟨rfl, rfl⟩
  have hq' : Lib.indexByte (⟨#[32, 9, 11, 12, 13]⟩ : ByteArray).data.toList (Int.toNat (c.toNat : Int)).toUInt8 = q := by
    rw [← hq, Int.toNat_natCast]
    exact congrArg _ (UInt8.ofNat_toNat)
  rw [hq']
  go_wp2
  go_ret
  exact ⟨rfl, rfl⟩

set_option maxHeartbeats 400000 in
theorem withoutTrail_any (l : List UInt8) (w : World) (hl : l.length ≤ 9223372036854775807) :
    Calls Tryz.prog 152 #[.string ⟨l.toArray⟩] w fun e w' => e = .returned (.string ⟨(trL l).toArray⟩) ∧ Below w.heap.size w w' := by
  go_enter Tryz.func152, Tryz.ntmps152
  go_wp2_with fail
  refine (Tryz.TrimRight_white ⟨l.toArray⟩ _ hl).mono ?_
  rintro e w1 ⟨rfl, hb1⟩
  go_wp2
  go_ret
  exact ⟨rfl, hb1⟩

theorem suffix_feed (s : List UInt8) : Lib.hasSuffix s [10] = feedB s := by
  unfold Lib.hasSuffix feedB
  rw [Bool.eq_iff_iff, List.isSuffixOf_iff_suffix, beq_iff_eq]
  constructor
  · rintro ⟨t, rfl⟩; simp
  · intro h
    obtain ⟨t, rfl⟩ := List.getLast?_eq_some_iff.1 h
    exact ⟨t, rfl⟩
theorem trim_feed (s : List UInt8) : Lib.trimSuffix s [10] = bareL s := by
  unfold Lib.trimSuffix bareL
  rw [suffix_feed, List.dropLast_eq_take]; rfl

set_option maxHeartbeats 400000 in
theorem Bare_any (l : List UInt8) (w : World) (hl : l.length ≤ 9223372036854775807) :
    Calls Tryz.prog 14 #[.string ⟨l.toArray⟩] w fun e w' => e = .returned (.tuple #[.string ⟨(bareL l).toArray⟩, .bool (feedB l)]) ∧ w = w' := by
  go_enter Tryz.func14, Tryz.ntmps14
  go_wp2_with fail
  refine (Tryz.strings_CutSuffix ⟨l.toArray⟩ ⟨#[10]⟩ _ hl).mono ?_
  rintro e w1 ⟨rfl, rfl⟩
  go_wp2
  go_ret2
  rw [← trim_feed, ← suffix_feed]
  exact ⟨rfl, rfl⟩

theorem cells_len (l : List UInt8) : (Lib.byteCells l).length = l.length := by simp [Lib.byteCells]

set_option maxHeartbeats 1000000 in
theorem withoutWhite_any (l : List UInt8) (w : World) (hl : l.length ≤ 1099511627776) :
    Calls Tryz.prog 150 #[.string ⟨l.toArray⟩] w fun e w' => e = .returned (.string ⟨(wo false false l).toArray⟩) ∧ Below w.heap.size w w' := by
  go_enter Tryz.func150, Tryz.ntmps150
  go_wp2
  go_loopw [4, 7] (fun _ i wr => ∃ (k : Nat) (acc : List UInt8) (was : Bool), k ≤ l.length ∧ i = .int .i64 k ∧ Lib.IsBuilderF 62 5 w.heap.size w.heap.size (Lib.byteCells acc) wr ∧ Below w.heap.size w wr ∧ acc ++ wo false was (l.drop k) = wo false false l) (fun _ i _ => l.length - (intOf i).toNat)
  case atStart => exact ⟨0, [], false, Nat.zero_le _, rfl, (Bld.fresh 62 5 w).isF, (Below.refl _ w).alloc (Nat.le_refl _) _, rfl⟩
  case round =>
    obtain ⟨k, acc, was, hk, rfl, hB, hbr, hacc⟩ := hrel
    have hal : acc.length ≤ l.length := by
      have h1 := congrArg List.length hacc
      have h2 := wo_len false l false
      rw [List.length_append] at h1
      omega
    have hbz := hbr.size
    by_cases hlt : k < l.length
    · have hdk : l.drop k = l[k] :: l.drop (k + 1) := List.drop_eq_getElem_cons hlt
      rw [hdk] at hacc
      clear hdk
      go_wp2_with fail
      refine (isWhite_any l[k] _).mono ?_
      rintro e w1 ⟨rfl, rfl⟩
      cases hc : wh l[k]
      · have HD : Hid (acc ++ [l[k]] ++ wo false false (l.drop (k + 1)) = wo false false l) := by
          rw [wo_keep hc] at hacc
          show _ = _
          rw [← hacc, List.append_assoc]; rfl
        clear hacc
        go_wp2_with fail
        refine (Tryz.WriteByte_k w.heap.size w.heap.size _ _ wr hB (by rw [cells_len]; omega) hbz).mono ?_
        rintro e w2 ⟨rfl, hB2, hb2, -⟩
        rw [← byteCells_snoc] at hB2
        go_wp2
        go_roundw
        case rel => exact ⟨k + 1, acc ++ [l[k]], false, by omega, by go_num, .inr hB2, hbr.trans hb2, HD.out⟩
        case measure => simp [intOf]; omega
      · have HD : Hid (acc ++ wo false true (l.drop (k + 1)) = wo false false l) := by
          rw [wo_none hc] at hacc
          exact hacc
        clear hacc
        go_wp2
        go_roundw
        case rel => exact ⟨k + 1, acc, true, by omega, by go_num, hB, hbr, HD.out⟩
        case measure => simp [intOf]; omega
    · have HD : Hid (acc = wo false false l) := by
        have e : l.drop k = [] := List.drop_eq_nil_of_le (by omega)
        rw [e] at hacc
        show acc = _
        simpa [wo] using hacc
      clear hacc
      go_wp2_with fail
      refine (Tryz.Builder_String_any_k w.heap.size w.heap.size acc wr hB hbz).mono ?_
      rintro e w2 ⟨rfl, -, hb2, -⟩
      go_wp2
      go_ret
      rw [HD.out]
      exact ⟨rfl, hbr.trans hb2⟩
end Go.Proofs.YtnlbjknfahhfaaaGreatDoor.Tx
