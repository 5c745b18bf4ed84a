/-
  For every three lists of numbers and every number the law EditsChain returns true and leaves its arguments as they were: edits.Compose is associative, and a script that keeps all adds nothing. No condition.
-/
import Derived.Test.YtoacmaloiaeniaaPartI1
import Derived.Test.YtoacmaloiaeniaaPartG1
import Derived.Test.YtoacmaloiaeniaaPartA1
namespace Go.Proofs.Ytoacmaloiaeniaa.editsChain
open Go.ChangeShapes Go.WideShapes Go.ChangeAt Go.RowKit

def q100 (z : Int) : Int := (IntKind.u64.wrap z).tmod 100
theorem q100_range (z : Int) : 0 ≤ q100 z ∧ q100 z ≤ 99 := by
  have h : 0 ≤ IntKind.u64.wrap z := by rw [IntKind.wrap_u64]; omega
  unfold q100
  rw [Int.tmod_eq_emod_of_nonneg h]
  omega
theorem Right.count {f : Bool} {a b n m : Int} {l : List Ch} (h : Right f a b n m l) : (l.length : Int) ≤ (n - a) + (m - b) := by
  induction l generalizing f a b with
  | nil => have := h.le; simp; omega
  | cons c l ih =>
    obtain ⟨⟨h1, h2, h3, h4⟩, h5⟩ := h
    rw [numB_iff] at h1
    have := ih h5
    simp only [List.length_cons]
    omega
theorem slen {n m : Int} {l : List Ch} (h : Script l n m) (hn : n ≤ 100) (hm : m ≤ 100) : l.length ≤ 200 := by
  have := Right.count h.2.2
  omega
/-- the scripts of the law, and what they are of one another -/
structure Chn (p q s : Int) (M : Int) (a b c : List Int) (x y z xy yz o : List Ch) : Prop where
  va : Vk 0 q a
  vb : Vk 0 s b
  vc : Vk 0 M c
  mx : mkL a q = x
  my : mkL b s = y
  mz : mkL c M = z
  sx : Script x p q
  sy : Script y q s
  sz : Script z s M
  cxy : compS x y p q s = xy
  cyz : compS y z q s M = yz
  sxy : Script xy p s
  syz : Script yz q M
  one : compS xy z p s M = o
  two : compS x yz p q M = o
  so : Script o p M
  same : compS x [] p q q = x
  also : compS [] x p p q = x
theorem chain (p q s : List Int) (M : Int) (h0 : 0 ≤ M) (hM : M ≤ 99) (hp : p.length ≤ 100) (hq : q.length ≤ 100) (hs : s.length ≤ 100) : ∃ x y z xy yz o, Chn p.length q.length s.length M (keptK q.length 0 p) (keptK s.length 0 q) (keptK M 0 s) x y z xy yz o := by
  have va : Vk 0 q.length (keptK q.length 0 p) := keptK_vk (Int.le_refl _)
  have vb : Vk 0 s.length (keptK s.length 0 q) := keptK_vk (Int.le_refl _)
  have vc : Vk 0 M (keptK M 0 s) := keptK_vk (Int.le_refl _)
  have sx := (mk_script va (by omega) (by omega) (by rw [keptK_length]; omega)).1
  have sy := (mk_script vb (by omega) (by omega) (by rw [keptK_length]; omega)).1
  have sz := (mk_script vc (by omega) (by omega) (by rw [keptK_length]; omega)).1
  rw [keptK_length] at sx sy sz
  have sxy := (comp_script sx sy (by omega) (by omega)).1
  have syz := (comp_script sy sz (by omega) (by omega)).1
  exact ⟨_, _, _, _, _, _, va, vb, vc, rfl, rfl, rfl, sx, sy, sz, rfl, rfl, sxy, syz, comp_assoc sx sy sz (by omega) (by omega) (by omega) (by omega), rfl, (comp_script sx syz (by omega) (by omega)).1, comp_nil sx, nil_comp sx⟩

set_option maxRecDepth 10000 in
set_option maxHeartbeats 4000000 in
theorem let_go (p q s : List Int) (m : Int) (vp vq vs : Value) (w : World) (hp : HI w vp p) (hq : HI w vq q) (hs : HI w vs s) (hbig : 100 < p.length ∨ 100 < q.length ∨ 100 < s.length) :
    Calls Try.prog 8 #[vp, vq, vs, .int .i64 m] w fun e w' => e = .returned (.bool true) ∧ Below w.heap.size w w' := by
  obtain ⟨po, pc, rfl⟩ := Holds.form hp
  obtain ⟨qo, qc, rfl⟩ := Holds.form hq
  obtain ⟨so, sc, rfl⟩ := Holds.form hs
  by_cases h1 : 100 < p.length
  · clear hbig
    go_enter Try.func8, Try.ntmps8
    go_wp2_with fail
    refine (works_any w).mono ?_
    rintro e w1 ⟨rfl, hB1⟩
    go_wp2
    go_ret
    exact ⟨rfl, hB1⟩
  · by_cases h2 : 100 < q.length
    · clear hbig
      go_enter Try.func8, Try.ntmps8
      go_wp2_with fail
      refine (works_any w).mono ?_
      rintro e w1 ⟨rfl, hB1⟩
      go_wp2
      go_ret
      exact ⟨rfl, hB1⟩
    · have h3 : 100 < s.length := by omega
      clear hbig
      go_enter Try.func8, Try.ntmps8
      go_wp2_with fail
      refine (works_any w).mono ?_
      rintro e w1 ⟨rfl, hB1⟩
      go_wp2
      go_ret
      exact ⟨rfl, hB1⟩

set_option maxRecDepth 10000 in
set_option maxHeartbeats 4000000 in
theorem all_small (p q s : List Int) (m : Int) (vp vq vs : Value) (w : World) (hp : HI w vp p) (hq : HI w vq q) (hs : HI w vs s) (lp : p.length ≤ 100) (lq : q.length ≤ 100) (ls : s.length ≤ 100) :
    Calls Try.prog 8 #[vp, vq, vs, .int .i64 m] w fun e w' => e = .returned (.bool true) ∧ Below w.heap.size w w' := by
  obtain ⟨po, pc, rfl⟩ := Holds.form hp
  obtain ⟨qo, qc, rfl⟩ := Holds.form hq
  obtain ⟨so, sc, rfl⟩ := Holds.form hs
  have hqq : (IntKind.u64.wrap m).tmod 100 = q100 m := rfl
  obtain ⟨m0, m1⟩ := q100_range m
  obtain ⟨M, hM⟩ : ∃ M, q100 m = M := ⟨_, rfl⟩
  rw [hM] at hqq m0 m1
  clear hM
  have hw64 : wrap64 M = M := by unfold wrap64; omega
  obtain ⟨x, y, z, xy, yz, o, hC⟩ := chain p q s M m0 m1 lp lq ls
  have la := keptK_length q.length 0 p
  have lb := keptK_length s.length 0 q
  have lc := keptK_length M 0 s
  obtain ⟨a, ha⟩ : ∃ a, keptK q.length 0 p = a := ⟨_, rfl⟩
  obtain ⟨b, hb⟩ : ∃ b, keptK s.length 0 q = b := ⟨_, rfl⟩
  obtain ⟨c, hc⟩ : ∃ c, keptK M 0 s = c := ⟨_, rfl⟩
  rw [ha, hb, hc] at hC
  rw [ha] at la
  rw [hb] at lb
  rw [hc] at lc
  have Ha : Hid (keptK q.length 0 p = a) := ha
  have Hb : Hid (keptK s.length 0 q = b) := hb
  have Hc : Hid (keptK M 0 s = c) := hc
  have ba : a.length ≤ 100 := by omega
  have bb : b.length ≤ 100 := by omega
  have bc : c.length ≤ 100 := by omega
  have lx := slen hC.sx (by omega) (by omega)
  have ly := slen hC.sy (by omega) (by omega)
  have lz := slen hC.sz (by omega) (by omega)
  have lxy := slen hC.sxy (by omega) (by omega)
  have lyz := slen hC.syz (by omega) (by omega)
  have lo := slen hC.so (by omega) (by omega)
  have HC : Hid (Chn p.length q.length s.length M a b c x y z xy yz o) := hC
  clear ha hb hc la lb lc hC
  go_enter Try.func8, Try.ntmps8
  go_wp2_with fail
  refine (works_any w).mono ?_
  rintro e w1 ⟨rfl, hB1⟩
  have hp1 := HI.keep hp hB1 (Nat.le_refl _)
  have hq1 := HI.keep hq hB1 (Nat.le_refl _)
  have hs1 := HI.keep hs hB1 (Nat.le_refl _)
  have hT1 := hB1
  clear hp hq hs hB1
  go_wp2_with fail
  refine (Kept_f p a q.length _ w1 hp1 (by omega) (by omega) Ha).mono ?_
  rintro e w2 ⟨v2, rfl, hown, hB2⟩
  have hN : HI w2 v2 a := holds_of hown
  clear hown
  clear hp1
  have hq2 := HI.keep hq1 hB2 (Nat.le_refl _)
  have hs2 := HI.keep hs1 hB2 (Nat.le_refl _)
  have hT2 := hT1.trans (hB2.mono hT1.size)
  clear hq1 hs1 hB2 hT1
  have ha2 := hN
  clear hN
  obtain ⟨ao, ac, rfl⟩ := Holds.form ha2
  go_wp2_with fail
  refine (Kept_f q b s.length _ w2 hq2 (by omega) (by omega) Hb).mono ?_
  rintro e w3 ⟨v3, rfl, hown, hB3⟩
  have hN : HI w3 v3 b := holds_of hown
  clear hown
  clear hq2
  have hs3 := HI.keep hs2 hB3 (Nat.le_refl _)
  have ha3 := HI.keep ha2 hB3 (Nat.le_refl _)
  have hT3 := hT2.trans (hB3.mono hT2.size)
  clear hs2 ha2 hB3 hT2
  have hb3 := hN
  clear hN
  obtain ⟨bo, bc, rfl⟩ := Holds.form hb3
  go_wp2_with fail
  refine (Kept_f s c M _ w3 hs3 (by omega) (by omega) Hc).mono ?_
  rintro e w4 ⟨v4, rfl, hown, hB4⟩
  have hN : HI w4 v4 c := holds_of hown
  clear hown
  clear hs3
  have ha4 := HI.keep ha3 hB4 (Nat.le_refl _)
  have hb4 := HI.keep hb3 hB4 (Nat.le_refl _)
  have hT4 := hT3.trans (hB4.mono hT3.size)
  clear ha3 hb3 hB4 hT3
  have hc4 := hN
  clear hN
  obtain ⟨co, cc, rfl⟩ := Holds.form hc4
  go_wp2_with fail
  refine (Make_f a q.length x _ w4 ha4 (by omega) HC.out.va (by omega) (by omega) HC.out.mx).mono ?_
  rintro e w5 ⟨v5, rfl, hN, hB5⟩
  clear ha4
  have hb5 := HI.keep hb4 hB5 (Nat.le_refl _)
  have hc5 := HI.keep hc4 hB5 (Nat.le_refl _)
  have hT5 := hT4.trans (hB5.mono hT4.size)
  clear hb4 hc4 hB5 hT4
  have hx5 := hN
  clear hN
  obtain ⟨xo, xc, rfl⟩ := Holds.form hx5
  go_wp2_with fail
  refine (Make_f b s.length y _ w5 hb5 (by omega) HC.out.vb (by omega) (by omega) HC.out.my).mono ?_
  rintro e w6 ⟨v6, rfl, hN, hB6⟩
  clear hb5
  have hc6 := HI.keep hc5 hB6 (Nat.le_refl _)
  have hx6 := HCh.keep hx5 hB6 (Nat.le_refl _)
  have hT6 := hT5.trans (hB6.mono hT5.size)
  clear hc5 hx5 hB6 hT5
  have hy6 := hN
  clear hN
  obtain ⟨yo, yc, rfl⟩ := Holds.form hy6
  go_wp2_with fail
  refine (Make_f c M z _ w6 hc6 (by omega) HC.out.vc m0 (by omega) HC.out.mz).mono ?_
  rintro e w7 ⟨v7, rfl, hN, hB7⟩
  clear hc6
  have hx7 := HCh.keep hx6 hB7 (Nat.le_refl _)
  have hy7 := HCh.keep hy6 hB7 (Nat.le_refl _)
  have hT7 := hT6.trans (hB7.mono hT6.size)
  clear hx6 hy6 hB7 hT6
  have hz7 := hN
  clear hN
  obtain ⟨zo, zc, rfl⟩ := Holds.form hz7
  go_wp2_with fail
  refine (Compose_f x y xy p.length q.length s.length _ _ w7 hx7 hy7 HC.out.sx HC.out.sy (by omega) (by omega) (by omega) (by first | omega | simp) (by first | omega | simp) HC.out.cxy).mono ?_
  rintro e w8 ⟨v8, rfl, hN, hB8⟩
  have hx8 := HCh.keep hx7 hB8 (Nat.le_refl _)
  have hy8 := HCh.keep hy7 hB8 (Nat.le_refl _)
  have hz8 := HCh.keep hz7 hB8 (Nat.le_refl _)
  have hT8 := hT7.trans (hB8.mono hT7.size)
  clear hx7 hy7 hz7 hB8 hT7
  have hxy8 := hN
  clear hN
  obtain ⟨xyo, xyc, rfl⟩ := Holds.form hxy8
  go_wp2_with fail
  refine (Compose_f y z yz q.length s.length M _ _ w8 hy8 hz8 HC.out.sy HC.out.sz (by omega) (by omega) (by omega) (by first | omega | simp) (by first | omega | simp) HC.out.cyz).mono ?_
  rintro e w9 ⟨v9, rfl, hN, hB9⟩
  clear hy8
  have hx9 := HCh.keep hx8 hB9 (Nat.le_refl _)
  have hz9 := HCh.keep hz8 hB9 (Nat.le_refl _)
  have hxy9 := HCh.keep hxy8 hB9 (Nat.le_refl _)
  have hT9 := hT8.trans (hB9.mono hT8.size)
  clear hx8 hz8 hxy8 hB9 hT8
  have hyz9 := hN
  clear hN
  obtain ⟨yzo, yzc, rfl⟩ := Holds.form hyz9
  go_wp2_with fail
  refine (Compose_f xy z o p.length s.length M _ _ w9 hxy9 hz9 HC.out.sxy HC.out.sz (by omega) (by omega) (by omega) (by first | omega | simp) (by first | omega | simp) HC.out.one).mono ?_
  rintro e w10 ⟨v10, rfl, hN, hB10⟩
  clear hxy9
  clear hz9
  have hx10 := HCh.keep hx9 hB10 (Nat.le_refl _)
  have hyz10 := HCh.keep hyz9 hB10 (Nat.le_refl _)
  have hT10 := hT9.trans (hB10.mono hT9.size)
  clear hx9 hyz9 hB10 hT9
  have hone10 := hN
  clear hN
  obtain ⟨oneo, onec, rfl⟩ := Holds.form hone10
  go_wp2_with fail
  refine (Compose_f x yz o p.length q.length M _ _ w10 hx10 hyz10 HC.out.sx HC.out.syz (by omega) (by omega) (by omega) (by first | omega | simp) (by first | omega | simp) HC.out.two).mono ?_
  rintro e w11 ⟨v11, rfl, hN, hB11⟩
  clear hyz10
  have hx11 := HCh.keep hx10 hB11 (Nat.le_refl _)
  have hone11 := HCh.keep hone10 hB11 (Nat.le_refl _)
  have hT11 := hT10.trans (hB11.mono hT10.size)
  clear hx10 hone10 hB11 hT10
  have htwo11 := hN
  clear hN
  obtain ⟨twoo, twoc, rfl⟩ := Holds.form htwo11
  go_wp2_with fail
  refine (Compose_f x [] x p.length q.length q.length _ _ w11 hx11 (Holds.nil _) HC.out.sx (nil_script (by omega)) (by omega) (by omega) (by omega) (by first | omega | simp) (by first | omega | simp) HC.out.same).mono ?_
  rintro e w12 ⟨v12, rfl, hN, hB12⟩
  have hx12 := HCh.keep hx11 hB12 (Nat.le_refl _)
  have hone12 := HCh.keep hone11 hB12 (Nat.le_refl _)
  have htwo12 := HCh.keep htwo11 hB12 (Nat.le_refl _)
  have hT12 := hT11.trans (hB12.mono hT11.size)
  clear hx11 hone11 htwo11 hB12 hT11
  have hsame12 := hN
  clear hN
  obtain ⟨sameo, samec, rfl⟩ := Holds.form hsame12
  go_wp2_with fail
  refine (Compose_f [] x x p.length p.length q.length _ _ w12 (Holds.nil _) hx12 (nil_script (by omega)) HC.out.sx (by omega) (by omega) (by omega) (by first | omega | simp) (by first | omega | simp) HC.out.also).mono ?_
  rintro e w13 ⟨v13, rfl, hN, hB13⟩
  have hx13 := HCh.keep hx12 hB13 (Nat.le_refl _)
  have hone13 := HCh.keep hone12 hB13 (Nat.le_refl _)
  have htwo13 := HCh.keep htwo12 hB13 (Nat.le_refl _)
  have hsame13 := HCh.keep hsame12 hB13 (Nat.le_refl _)
  have hT13 := hT12.trans (hB13.mono hT12.size)
  clear hx12 hone12 htwo12 hsame12 hB13 hT12
  have halso13 := hN
  clear hN
  obtain ⟨alsoo, alsoc, rfl⟩ := Holds.form halso13
  go_wp2_with fail
  refine (SameC_any _ _ o w13 (by omega) hone13 htwo13).mono ?_
  rintro e w14 ⟨rfl, hB14⟩
  clear hone13
  clear htwo13
  have hx14 := HCh.keep hx13 hB14 (Nat.le_refl _)
  have hsame14 := HCh.keep hsame13 hB14 (Nat.le_refl _)
  have halso14 := HCh.keep halso13 hB14 (Nat.le_refl _)
  have hT14 := hT13.trans (hB14.mono hT13.size)
  clear hx13 hsame13 halso13 hB14 hT13
  go_wp2_with fail
  refine (SameC_any _ _ x w14 (by omega) hsame14 hx14).mono ?_
  rintro e w15 ⟨rfl, hB15⟩
  clear hsame14
  have hx15 := HCh.keep hx14 hB15 (Nat.le_refl _)
  have halso15 := HCh.keep halso14 hB15 (Nat.le_refl _)
  have hT15 := hT14.trans (hB15.mono hT14.size)
  clear hx14 halso14 hB15 hT14
  go_wp2_with fail
  refine (SameC_any _ _ x w15 (by omega) halso15 hx15).mono ?_
  rintro e w16 ⟨rfl, hB16⟩
  clear halso15
  clear hx15
  have hT16 := hT15.trans (hB16.mono hT15.size)
  clear hB16 hT15
  go_wp2
  go_ret
  exact ⟨rfl, hT16⟩

theorem walk (p q s : List Int) (m : Int) (vp vq vs : Value) (w : World) (_ : -9223372036854775808 ≤ m ∧ m ≤ 9223372036854775807) (hp : HI w vp p) (hq : HI w vq q) (hs : HI w vs s) :
    Calls Try.prog 8 #[vp, vq, vs, .int .i64 m] w fun e w' => e = .returned (.bool true) ∧ Below w.heap.size w w' := by
  by_cases h : p.length ≤ 100 ∧ q.length ≤ 100 ∧ s.length ≤ 100
  · exact all_small p q s m vp vq vs w hp hq hs h.1 h.2.1 h.2.2
  · exact let_go p q s m vp vq vs w hp hq hs (by omega)

set_option maxRecDepth 20000 in
theorem contract (H : Type) (enc : TypeId × Value → H) (W : World) (base : Nat) (args : Array Value) (ds gs : List (DataW H)) (before : List MemPlace)
    (hval : ∀ (j : Nat) t v, Try.f8.params[j]? = some t → args[j]? = some v → Value.okWide Try.prog W .any base t v)
    (hW : DataW.Whole enc Try.prog Try.f8.params.toList Rows.editsChainSpec.vars false W args.toList ds gs before) :
    Calls Try.prog 8 args W fun e W' => ∃ v, e = .returned v ∧ Rows.editsChainSpec.post enc Try.prog Try.f8 false true false false W args v W' := by
  have hW' := hW
  obtain ⟨p, q, hA0, hV, rfl, hfz, hnd⟩ := hW
  have hA : DataW.TrodAll enc Try.prog W 0 (fun _ => true) true Try.f8.params.toList args.toList ds p := hA0
  rw [Try.params8] at hA hval
  obtain ⟨v0, vs0, d0, ds0, p0, q0, hargs, rfl, rfl, h0, r0⟩ := trodAll_cons hA
  obtain ⟨v1, vs1, d1, ds1, p1, q1, rfl, rfl, rfl, h1, r1⟩ := trodAll_cons r0
  obtain ⟨v2, vs2, d2, ds2, p2, q2, rfl, rfl, rfl, h2, r2⟩ := trodAll_cons r1
  obtain ⟨v3, vs3, d3, ds3, p3, q3, rfl, rfl, rfl, h3, r3⟩ := trodAll_cons r2
  obtain ⟨rfl, rfl, rfl⟩ := trodAll_nil r3
  obtain rfl : args = #[v0, v1, v2, v3] := by cases args; simp_all
  obtain ⟨rfl, rfl⟩ := trodVars_none hV
  obtain ⟨a0, len0, cap0, rfl⟩ := okWide_slice Try.underlying26 (hval 0 26 v0 rfl rfl)
  have k0 := h0
  have lt0 : ∀ x ∈ p0, x.block < W.heap.size := by obtain ⟨m, hm⟩ := k0; exact DataW.trod_lt m _ _ _ hm
  obtain ⟨a1, len1, cap1, rfl⟩ := okWide_slice Try.underlying26 (hval 1 26 v1 rfl rfl)
  have k1 := h1
  have lt1 : ∀ x ∈ p1, x.block < W.heap.size := by obtain ⟨m, hm⟩ := k1; exact DataW.trod_lt m _ _ _ hm
  obtain ⟨a2, len2, cap2, rfl⟩ := okWide_slice Try.underlying26 (hval 2 26 v2 rfl rfl)
  have k2 := h2
  have lt2 : ∀ x ∈ p2, x.block < W.heap.size := by obtain ⟨m, hm⟩ := k2; exact DataW.trod_lt m _ _ _ hm
  obtain ⟨n3, rfl, rfl, rfl, wn3⟩ := open_int Try.underlying3 (hval 3 3 v3 rfl rfl) h3
  clear hA0
  obtain ⟨f0, hf0⟩ := h0
  obtain ⟨ws0, hv0, hwl0, hwf0⟩ := open_nums (by simpa [Value.cells] using hf0)
  obtain ⟨f1, hf1⟩ := h1
  obtain ⟨ws1, hv1, hwl1, hwf1⟩ := open_nums (by simpa [Value.cells] using hf1)
  obtain ⟨f2, hf2⟩ := h2
  obtain ⟨ws2, hv2, hwl2, hwf2⟩ := open_nums (by simpa [Value.cells] using hf2)
  have hw := walk ws0 ws1 ws2 n3 (.slice a0 len0 cap0) (.slice a1 len1 cap1) (.slice a2 len2 cap2) W (bounds_i64 wn3) hv0 hv1 hv2
  refine hw.mono fun e W' ⟨he, bel⟩ => ?_
  subst he
  exact ⟨_, rfl, _, _, _, [], _, [], hW', trodAll_mk1 (shut_bool Try.underlying4 _), trodAll_cons_mk (Below.trod laidOut (by kernel_rfl) (of_decide_eq_true (by kernel_rfl)) k0 bel lt0) (trodAll_cons_mk (Below.trod laidOut (by kernel_rfl) (of_decide_eq_true (by kernel_rfl)) k1 bel lt1) (trodAll_cons_mk (Below.trod laidOut (by kernel_rfl) (of_decide_eq_true (by kernel_rfl)) k2 bel lt2) (trodAll_cons_mk (shut_int Try.underlying3 wn3) trodAll_mk0))), rfl, bel.frame _, fun h => by cases h⟩

set_option maxRecDepth 100000 in
theorem lifted (os : Os) (started : os.Started) (H : Type) (enc : TypeId × Value → H) :
    ReturnsInHanded {} Try.checked os 8 .any (Rows.editsChainSpec.pre6 enc Try.prog Try.f8 Rows.editsChainRow.domain false) (Rows.editsChainSpec.post enc Try.prog Try.f8 false true false false) := by
  refine returnsInHanded_of_change (C := Try.checked) own started (by kernel_rfl) Try.func8
    (ChangeSpec.witness6 (enc := enc) (C := Try.checked) false ⟨#[], #[.slice none 0 0, .slice none 0 0, .slice none 0 0, .int .i64 0], []⟩ 8 (by kernel_rfl) (by kernel_rfl) (by kernel_rfl) (by kernel_rfl)) ?_
  intro W base args ds gs before hval hW _ _
  exact contract H enc W base args ds gs before hval hW

theorem proved : Rows.EditsChainSaid :=
  OpenClaim.holds_of_wide 8 Try.f8 rfl rfl rfl rfl rfl rfl rfl ⟨rfl, rfl, rfl, rfl, rfl⟩ rfl rfl rfl rfl rfl (by kernel_rfl) Try.func8 (by kernel_rfl)
    (of_decide_eq_true (by kernel_rfl)) (by unfold Func.isWrapper; first | (rw [if_pos (by decide +kernel)]; kernel_rfl) | (rw [if_neg (by decide +kernel)]; exact ⟨rfl, rfl⟩))
    (fun os started H enc _ => lifted os started H enc)
#print axioms proved
end Go.Proofs.Ytoacmaloiaeniaa.editsChain
