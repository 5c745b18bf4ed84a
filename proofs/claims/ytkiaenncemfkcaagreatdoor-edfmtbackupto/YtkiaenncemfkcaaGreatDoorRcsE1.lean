/-
  Texts that belong together, joined: EfWk.
-/
import Derived.Test.YtkiaenncemfkcaaGreatDoorRcsC5

set_option maxHeartbeats 16000000
set_option maxRecDepth 100000
namespace Go.Proofs.YtkiaenncemfkcaaGreatDoor

section
open Go.RowKit
def ewA:List (List UInt8):=[[49,10],[50,10],[51,10]]
def ewB:List (List UInt8):=[[49,10],[46,10]]
def ewL:List Ch:=[⟨1,2,1,1⟩]
def ewT:List UInt8:=[50,44,51,99,10,46,46,10,46,10,115,47,46,47,47,10]
theorem ZhB:chk ewL ewA.length ewB.length=0:=by decide +kernel
theorem ZhC:epT ewL ewB=ewT:=by decide +kernel
theorem ZhD:edR ewT ewA=.ok ewB:=by kernel_rfl
theorem ZhE (w:World) (HTb:Hid (Tab10 w)):Calls Tryz.prog 6 #[] w fun e w'=>e=.returned (.bool true)∧Below w.heap.size w w':=by
 have HR:Hid (chk ewL ewA.length ewB.length=0):=ZhB
 have HT:Hid ((if (0:Int)=0 then epT ewL ewB else [])=ewT):=(by show _=_;rw[if_pos rfl];exact ZhC)
 have HX:Hid (edR ewT ewA=.ok ewB):=ZhD
 have HTBB:Hid (∀ s∈ewB,s.length≤1099511627776):=(by show ∀ s∈ewB,s.length≤1099511627776;decide +kernel)
 have HTAA:Hid (∀ s∈ewA,s.length≤1099511627776):=(by show ∀ s∈ewA,s.length≤1099511627776;decide +kernel)
 obtain⟨u1,hu1⟩:∃ u,w.alloc (.cells #[.int .i64 1,.int .i64 2,.int .i64 1,.int .i64 1] 45)=u:=⟨_,rfl⟩
 obtain⟨u2,hu2⟩:∃ u,u1.alloc (.cells #[.string ⟨#[49,10]⟩,.string ⟨#[50,10]⟩,.string ⟨#[51,10]⟩] 9)=u:=⟨_,rfl⟩
 obtain⟨u3,hu3⟩:∃ u,u2.alloc (.cells #[.string ⟨#[49,10]⟩,.string ⟨#[46,10]⟩] 9)=u:=⟨_,rfl⟩
 have b1:Below w.heap.size w u1:=by rw[← hu1];exact (Below.refl _ w).alloc (Nat.le_refl _) _
 have b2:Below u1.heap.size u1 u2:=by rw[← hu2];exact (Below.refl _ u1).alloc (Nat.le_refl _) _
 have b3:Below u2.heap.size u2 u3:=by rw[← hu3];exact (Below.refl _ u2).alloc (Nat.le_refl _) _
 have s1:u1.heap.size=w.heap.size+1:=by rw[← hu1];simp
 have s2:u2.heap.size=w.heap.size+1+1:=by rw[← hu2,World.size_alloc,s1]
 have hl0:HCh u1 (.slice (some ⟨w.heap.size,0,none⟩) 1 1) ewL:=by rw[← hu1];exact Zqa w #[.int .i64 1,.int .i64 2,.int .i64 1,.int .i64 1] 45 1 1 (by decide)
 have ha0:HS u2 (.slice (some ⟨w.heap.size+1,0,none⟩) 3 3) ewA:=by rw[← hu2,← s1];exact Zqa u1 #[.string ⟨#[49,10]⟩,.string ⟨#[50,10]⟩,.string ⟨#[51,10]⟩] 9 3 3 (by decide)
 have hb0:HS u3 (.slice (some ⟨w.heap.size+1+1,0,none⟩) 2 2) ewB:=by rw[← hu3,← s2];exact Zqa u2 #[.string ⟨#[49,10]⟩,.string ⟨#[46,10]⟩] 9 2 2 (by decide)
 have hl3:HCh u3 (.slice (some ⟨w.heap.size,0,none⟩) 1 1) ewL:=HCh.keep (HCh.keep hl0 b2 (Nat.le_refl _)) b3 (Nat.le_refl _)
 have ha3:HS u3 (.slice (some ⟨w.heap.size+1,0,none⟩) 3 3) ewA:=HS.keep ha0 b3 (Nat.le_refl _)
 have b12:=b1.trans (b2.mono b1.size)
 have b13:=b12.trans (b3.mono b12.size)
 have HTb3:Hid (Tab10 u3):=HTb.out.on b13
 clear b1 b2 b3 b12 hl0 ha0
 go_enter Tryz.func6,Tryz.ntmps6
 go_wp2_with fail
 refine (Zgx ewL _ _ _ ewA ewB u3 hl3 ha3 hb0 (by decide) (by decide) (by decide) HTBB HTb3 0 HR ewT HT (by decide)).mono ?_
 rintro e w2 ⟨rfl,hB2⟩
 have hB02:=b13.trans (hB2.mono b13.size)
 clear hl3 ha3 hb0 b13 hB2 HTb3 HT HR HTb hu1 hu2 hu3 s1 s2
 unfold ewT at HX ⊢
 obtain⟨u4,hu4⟩:∃ u,w2.alloc (.cells #[.string ⟨#[49,10]⟩,.string ⟨#[50,10]⟩,.string ⟨#[51,10]⟩] 9)=u:=⟨_,rfl⟩
 have b4:Below w2.heap.size w2 u4:=by rw[← hu4];exact (Below.refl _ w2).alloc (Nat.le_refl _) _
 have ha4:HS u4 (.slice (some ⟨w2.heap.size,0,none⟩) 3 3) ewA:=by rw[← hu4];exact Zqa w2 #[.string ⟨#[49,10]⟩,.string ⟨#[50,10]⟩,.string ⟨#[51,10]⟩] 9 3 3 (by decide)
 go_wp2_with fail
 refine (Zbc [50,44,51,99,10,46,46,10,46,10,115,47,46,47,47,10] ewA _ u4 ha4 (by decide) (by decide) HTAA _ HX).mono ?_
 rintro e w3 ⟨v,rfl,hv,hB3⟩
 have hB04:=hB02.trans (b4.mono hB02.size)
 have hB03:=hB04.trans (hB3.mono hB04.size)
 obtain⟨vo,vc,rfl⟩:=Holds.form hv
 clear ha4 b4 hB02 hB3 hu4 HX hB04
 have b5:Below w3.heap.size w3 (w3.alloc (.cells #[.string ⟨#[49,10]⟩,.string ⟨#[46,10]⟩] 9)):=(Below.refl _ w3).alloc (Nat.le_refl _) _
 have hv5:=HS.keep hv b5 (Nat.le_refl _)
 have hw5:HS (w3.alloc (.cells #[.string ⟨#[49,10]⟩,.string ⟨#[46,10]⟩] 9)) (.slice (some ⟨w3.heap.size,0,none⟩) 2 2) ewB:=Zqa w3 #[.string ⟨#[49,10]⟩,.string ⟨#[46,10]⟩] 9 2 2 (by decide)
 have hB05:=hB03.trans (b5.mono hB03.size)
 go_wp2_with fail
 refine (SameS_any _ _ ewB _ (by decide) hv5 hw5).mono ?_
 rintro e w6 ⟨rfl,hB6⟩
 go_wp2
 go_ret
 exact⟨rfl,hB05.trans (hB6.mono hB05.size)⟩
end

end Go.Proofs.YtkiaenncemfkcaaGreatDoor
